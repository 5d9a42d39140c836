import Derived.Test.YtjbbbejadhojlaaDoorXAB
import Derived.Laws.AppendOwn
import Derived.Laws.AppendOwnNone
import Derived.Laws.OwnMore
import Derived.Maps.AppendAt
import Derived.Deep.MidRow
import Derived.Test.YtjbbbejadhojlaaDoorXAK
namespace Go.Proofs.YtjbbbejadhojlaaDoor
open Go.RowKit
set_option linter.unusedVariables false
set_option linter.unusedSimpArgs false

/-- A row of the document's table. -/
structure Rf where
  n : ByteArray
  a : Int
  b : Int
  t : Int
  p : Int
  deriving Inhabited
def Rf.cells (r : Rf) : List Value := [.string r.n, .int .i64 r.a, .int .i64 r.b, .int .i64 r.t, .int .i64 r.p]
def rfc (l : List Rf) : List Value := l.flatMap Rf.cells
theorem rfc_len (l : List Rf) : (rfc l).length = l.length * 5 := by
  induction l with
  | nil => rfl
  | cons f l ih => simp [rfc, Rf.cells] at ih ⊢; omega
theorem rfc_app (l m : List Rf) : rfc (l ++ m) = rfc l ++ rfc m := by simp [rfc]
theorem rfc_at (l : List Rf) : ∀ i, i < l.length → ∀ j, j < 5 → (rfc l)[i * 5 + j]? = (l.getD i default).cells[j]? := by
  induction l with
  | nil => intro i hi; simp at hi
  | cons f l ih =>
    intro i hi j hj
    have e : rfc (f :: l) = f.cells ++ rfc l := rfl
    rw [e]
    match i with
    | 0 => rw [Nat.zero_mul, Nat.zero_add, List.getElem?_append_left (by simp [Rf.cells]; omega)]; rfl
    | i + 1 =>
      rw [List.getElem?_append_right (by simp [Rf.cells]; omega)]
      rw [show (i + 1) * 5 + j - f.cells.length = i * 5 + j by simp [Rf.cells]; omega, ih i (by simpa using hi) j hj]
      rfl
theorem infoR : (Tryd.prog.info? 145).map (fun i => (i.zero, i.size, i.bytes)) = some (some (.agg #[.string ⟨#[]⟩, .int .i64 0, .int .i64 0, .int .i64 0, .int .i64 0]), 5, 48) := by kernel_rfl
abbrev OwR (w : World) (B : Nat) (v : Value) (l : List Rf) : Prop := w.ownsRow B 145 5 v l.length (rfc l)
theorem own_litR (w : World) (B : Nat) (hB : B ≤ w.heap.size) (l : List Rf) (hl : l.length ≤ 1000) (C : Array Value) (hC : C = (rfc l).toArray) : OwR (w.alloc (.cells C 145)) B (.slice (some ⟨w.heap.size, 0, none⟩) l.length l.length) l := by
  subst hC
  refine ⟨rfc_len l, .inr ⟨w.heap.size, l.length, (rfc l).toArray, rfl, hB, heap_new w _, Nat.le_refl _, by unfold maxLen; omega, by simp [rfc_len], ?_⟩⟩
  rw [List.take_of_length_le]
  simp [rfc_len]
theorem wp_rowsR {ops : Array Oper} {rest : List Oper} {o : Oper} {a : Act} {Q : Exit → Act → World → Prop} (w : World) (ys : List Rf) (N : Nat) (hN : N = w.heap.size) (hgd : o.guard = none) (s x : Operand)
    (ho : o.op = .call { callee := .builtin .append, args := #[s, x], argTypes := #[154, 154] }) (base : Nat) (v : Value) (ss : List Rf) (hs : a.eval s = v) (m : Nat) (hm : m = ys.length)
    (hx : a.eval x = .slice (some ⟨N, 0, none⟩) m m) (hown : OwR w base v ss) (hl : ss.length ≤ 1000) (hy : ys.length ≤ 1000) (hb : base ≤ w.heap.size) (C : Array Value) (hC : C = (rfc ys).toArray)
    (h : ∀ v' w', OwR w' base v' (ss ++ ys) → Below base w w' → wpList Tryd.prog ops Q rest (a.put o.dst v') w') :
    wpList Tryd.prog ops Q (o :: rest) a (w.alloc (.cells C 145)) := by
  subst hN; subst hm; subst hC
  obtain ⟨i0, hi, hz0, hz1, hz2⟩ := info_parts infoR
  refine wpList_append_own _ hgd s x 154 ho base 145 i0 _ 5 48 Tryd.underlying154 hi hz0 hz1 hz2 rfl (by decide) v _ _ hs (hown.alloc _) ⟨w.heap.size, 0, none⟩ ys.length ys.length (rfc ys) hx (rfc_len ys) ?_ ?_ (by unfold maxLen; omega) (by omega) (by simp; omega) ?_
  · intro j u hj
    have e : ((⟨w.heap.size, 0, none⟩ : Addr).add j) = ⟨w.heap.size, j, none⟩ := by unfold Addr.add; rw [Nat.zero_add]; split <;> simp_all
    rw [e, World.cell?_alloc_at _ _ _ _ rfl]
    simpa using hj
  · intro u hu
    obtain ⟨r, _, hr⟩ := List.mem_flatMap.1 hu
    simp [Rf.cells] at hr
    rcases hr with rfl | rfl | rfl | rfl | rfl <;> rfl
  · intro v' w' h1 h2 _
    refine h v' w' ?_ ?_
    · unfold OwR
      rw [List.length_append, rfc_app]
      exact h1
    · exact ((Below.refl _ w).alloc hb _).grown h2 (by simp; omega) (fun k e => by
        rcases hown.2 with ⟨rfl, _⟩ | ⟨g, c, cur, rfl, hB, _⟩
        · simp [Value.ownBlock] at e
        · simp [Value.ownBlock] at e; omega)
def rp0 : List Rf := [⟨⟨#[101, 110, 100]⟩, (-1), (-1), 0, 0⟩, ⟨⟨#[99, 111, 110, 115, 116]⟩, 16383, (-1), 0, 1⟩, ⟨⟨#[98, 111, 111, 108]⟩, 1, (-1), 0, 1⟩, ⟨⟨#[111, 98, 115]⟩, 63, 3660, 0, 1⟩]
def rp1 : List Rf := [⟨⟨#[108, 111, 97, 100]⟩, 32767, (-1), 0, 1⟩, ⟨⟨#[115, 116, 111, 114, 101]⟩, 32767, (-1), 1, 0⟩]
def rp2 : List Rf := [⟨⟨#[107, 101, 101, 112]⟩, 16383, (-1), 1, 1⟩, ⟨⟨#[103, 101, 116]⟩, 16383, (-1), 0, 1⟩, ⟨⟨#[100, 114, 111, 112]⟩, (-1), (-1), 1, 0⟩]
def rp3 : List Rf := [⟨⟨#[97, 100, 100]⟩, (-1), (-1), 2, 1⟩, ⟨⟨#[115, 117, 98]⟩, (-1), (-1), 2, 1⟩, ⟨⟨#[109, 117, 108]⟩, (-1), (-1), 2, 1⟩, ⟨⟨#[110, 101, 103]⟩, (-1), (-1), 1, 1⟩]
def rp4 : List Rf := [⟨⟨#[100, 105, 118]⟩, (-1), (-1), 2, 1⟩, ⟨⟨#[109, 111, 100]⟩, (-1), (-1), 2, 1⟩, ⟨⟨#[97, 98, 115]⟩, (-1), (-1), 1, 1⟩, ⟨⟨#[109, 105, 110]⟩, (-1), (-1), 2, 1⟩, ⟨⟨#[109, 97, 120]⟩, (-1), (-1), 2, 1⟩]
def rp5 : List Rf := [⟨⟨#[114, 97, 116, 105, 111]⟩, 4, (-1), 3, 1⟩]
def rp6 : List Rf := [⟨⟨#[108, 116]⟩, (-1), (-1), 2, 1⟩, ⟨⟨#[108, 101]⟩, (-1), (-1), 2, 1⟩, ⟨⟨#[103, 116]⟩, (-1), (-1), 2, 1⟩, ⟨⟨#[103, 101]⟩, (-1), (-1), 2, 1⟩, ⟨⟨#[101, 113]⟩, (-1), (-1), 2, 1⟩, ⟨⟨#[110, 101]⟩, (-1), (-1), 2, 1⟩]
def rp7 : List Rf := [⟨⟨#[110, 111, 116]⟩, (-1), (-1), 1, 1⟩, ⟨⟨#[106, 117, 109, 112]⟩, 262143, (-1), 0, 0⟩, ⟨⟨#[122, 101, 114, 111]⟩, 262143, (-1), 1, 0⟩, ⟨⟨#[102, 108, 111, 119]⟩, 4095, (-1), 1, 0⟩]
/-- The k-th row. -/
def rfs (k : Nat) : Rf := ⟨nmA k, if 1 ≤ onA k then (baA k : Int) else -1, if 2 ≤ onA k then (bbA k : Int) else -1, (tkA k : Int), (ptA k : Int)⟩
def rtab : List Rf := rp0 ++ rp1 ++ rp2 ++ rp3 ++ rp4 ++ rp5 ++ rp6 ++ rp7
theorem rtab_at : ∀ k, k < 29 → rtab.getD k default = rfs k
  | 0, _ => rfl
  | 1, _ => rfl
  | 2, _ => rfl
  | 3, _ => rfl
  | 4, _ => rfl
  | 5, _ => rfl
  | 6, _ => rfl
  | 7, _ => rfl
  | 8, _ => rfl
  | 9, _ => rfl
  | 10, _ => rfl
  | 11, _ => rfl
  | 12, _ => rfl
  | 13, _ => rfl
  | 14, _ => rfl
  | 15, _ => rfl
  | 16, _ => rfl
  | 17, _ => rfl
  | 18, _ => rfl
  | 19, _ => rfl
  | 20, _ => rfl
  | 21, _ => rfl
  | 22, _ => rfl
  | 23, _ => rfl
  | 24, _ => rfl
  | 25, _ => rfl
  | 26, _ => rfl
  | 27, _ => rfl
  | 28, _ => rfl
  | n + 29, h => absurd h (by omega)
/-- The table that came, where the world holds it. -/
def RTb (w : World) (g : Nat) : Prop := g < w.heap.size ∧ ∀ k, k < 29 → w.cell? ⟨g, k * 5, none⟩ = some (.string (nmA k)) ∧ w.cell? ⟨g, k * 5 + 1, none⟩ = some (.int .i64 (rfs k).a) ∧ w.cell? ⟨g, k * 5 + 2, none⟩ = some (.int .i64 (rfs k).b) ∧ w.cell? ⟨g, k * 5 + 3, none⟩ = some (.int .i64 (tkA k : Int)) ∧ w.cell? ⟨g, k * 5 + 4, none⟩ = some (.int .i64 (ptA k : Int))
theorem rtb_of {w : World} {B : Nat} {v : Value} (h : OwR w B v rtab) : ∃ g cap, v = .slice (some ⟨g, 0, none⟩) 29 cap ∧ RTb w g := by
  obtain ⟨h1, h2⟩ := h
  have hl : rtab.length = 29 := rfl
  rw [hl] at h2
  rcases h2 with ⟨rfl, h2⟩ | ⟨g, cap, cur, rfl, hB, hg, hn, hm, hs, ht⟩
  · omega
  · refine ⟨g, cap, rfl, (Array.getElem?_eq_some_iff.1 hg).1, fun k hk => ?_⟩
    have key : ∀ j, j < 5 → w.cell? ⟨g, k * 5 + j, none⟩ = (rfs k).cells[j]? := fun j hj => by
      have e : w.cell? ⟨g, k * 5 + j, none⟩ = cur[k * 5 + j]? := by simp [World.cell?, hg]
      rw [e, ← rtab_at k hk, ← rfc_at rtab k hk j hj, ← ht, List.getElem?_take_of_lt (by omega)]
      simp
    exact ⟨key 0 (by omega), key 1 (by omega), key 2 (by omega), key 3 (by omega), key 4 (by omega)⟩
def TbE (w : World) (e : Ending) (w' : World) : Prop := ∃ g cap, e = .returned (.slice (some ⟨g, 0, none⟩) 29 cap) ∧ RTb w' g ∧ Below w.heap.size w w'
set_option maxRecDepth 100000 in
set_option maxHeartbeats 4000000 in
theorem table_any (w : World) : Calls Tryd.prog 82 #[] w fun e w' => TbE w e w' := by
  obtain ⟨w1, hw1⟩ : ∃ w1, w.alloc (.cells #[.string ⟨#[101, 110, 100]⟩, .int .i64 (-1), .int .i64 (-1), .int .i64 0, .int .i64 0, .string ⟨#[99, 111, 110, 115, 116]⟩, .int .i64 16383, .int .i64 (-1), .int .i64 0, .int .i64 1, .string ⟨#[98, 111, 111, 108]⟩, .int .i64 1, .int .i64 (-1), .int .i64 0, .int .i64 1, .string ⟨#[111, 98, 115]⟩, .int .i64 63, .int .i64 3660, .int .i64 0, .int .i64 1] 145) = w1 := ⟨_, rfl⟩
  have O1 := Lib.hid (p := OwR w1 w.heap.size (.slice (some ⟨w.heap.size, 0, none⟩) 4 4) rp0) (by rw [← hw1]; exact own_litR w w.heap.size (Nat.le_refl _) rp0 (by decide) _ rfl)
  have B1 := Lib.hid (p := Below w.heap.size w w1) (by rw [← hw1]; exact (Below.refl _ _).alloc (Nat.le_refl _) _)
  have C2 := Lib.hid (p := (#[.string ⟨#[108, 111, 97, 100]⟩, .int .i64 32767, .int .i64 (-1), .int .i64 0, .int .i64 1, .string ⟨#[115, 116, 111, 114, 101]⟩, .int .i64 32767, .int .i64 (-1), .int .i64 1, .int .i64 0] : Array Value) = (rfc rp1).toArray) rfl
  have C3 := Lib.hid (p := (#[.string ⟨#[107, 101, 101, 112]⟩, .int .i64 16383, .int .i64 (-1), .int .i64 1, .int .i64 1, .string ⟨#[103, 101, 116]⟩, .int .i64 16383, .int .i64 (-1), .int .i64 0, .int .i64 1, .string ⟨#[100, 114, 111, 112]⟩, .int .i64 (-1), .int .i64 (-1), .int .i64 1, .int .i64 0] : Array Value) = (rfc rp2).toArray) rfl
  have C4 := Lib.hid (p := (#[.string ⟨#[97, 100, 100]⟩, .int .i64 (-1), .int .i64 (-1), .int .i64 2, .int .i64 1, .string ⟨#[115, 117, 98]⟩, .int .i64 (-1), .int .i64 (-1), .int .i64 2, .int .i64 1, .string ⟨#[109, 117, 108]⟩, .int .i64 (-1), .int .i64 (-1), .int .i64 2, .int .i64 1, .string ⟨#[110, 101, 103]⟩, .int .i64 (-1), .int .i64 (-1), .int .i64 1, .int .i64 1] : Array Value) = (rfc rp3).toArray) rfl
  have C5 := Lib.hid (p := (#[.string ⟨#[100, 105, 118]⟩, .int .i64 (-1), .int .i64 (-1), .int .i64 2, .int .i64 1, .string ⟨#[109, 111, 100]⟩, .int .i64 (-1), .int .i64 (-1), .int .i64 2, .int .i64 1, .string ⟨#[97, 98, 115]⟩, .int .i64 (-1), .int .i64 (-1), .int .i64 1, .int .i64 1, .string ⟨#[109, 105, 110]⟩, .int .i64 (-1), .int .i64 (-1), .int .i64 2, .int .i64 1, .string ⟨#[109, 97, 120]⟩, .int .i64 (-1), .int .i64 (-1), .int .i64 2, .int .i64 1] : Array Value) = (rfc rp4).toArray) rfl
  have C6 := Lib.hid (p := (#[.string ⟨#[114, 97, 116, 105, 111]⟩, .int .i64 4, .int .i64 (-1), .int .i64 3, .int .i64 1] : Array Value) = (rfc rp5).toArray) rfl
  have C7 := Lib.hid (p := (#[.string ⟨#[108, 116]⟩, .int .i64 (-1), .int .i64 (-1), .int .i64 2, .int .i64 1, .string ⟨#[108, 101]⟩, .int .i64 (-1), .int .i64 (-1), .int .i64 2, .int .i64 1, .string ⟨#[103, 116]⟩, .int .i64 (-1), .int .i64 (-1), .int .i64 2, .int .i64 1, .string ⟨#[103, 101]⟩, .int .i64 (-1), .int .i64 (-1), .int .i64 2, .int .i64 1, .string ⟨#[101, 113]⟩, .int .i64 (-1), .int .i64 (-1), .int .i64 2, .int .i64 1, .string ⟨#[110, 101]⟩, .int .i64 (-1), .int .i64 (-1), .int .i64 2, .int .i64 1] : Array Value) = (rfc rp6).toArray) rfl
  have C8 := Lib.hid (p := (#[.string ⟨#[110, 111, 116]⟩, .int .i64 (-1), .int .i64 (-1), .int .i64 1, .int .i64 1, .string ⟨#[106, 117, 109, 112]⟩, .int .i64 262143, .int .i64 (-1), .int .i64 0, .int .i64 0, .string ⟨#[122, 101, 114, 111]⟩, .int .i64 262143, .int .i64 (-1), .int .i64 1, .int .i64 0, .string ⟨#[102, 108, 111, 119]⟩, .int .i64 4095, .int .i64 (-1), .int .i64 1, .int .i64 0] : Array Value) = (rfc rp7).toArray) rfl
  have P1 : True := trivial
  have P2 : True := trivial
  have P3 : True := trivial
  have P4 : True := trivial
  have P5 : True := trivial
  have P6 : True := trivial
  have P7 : True := trivial
  go_enter Tryd.func82, Tryd.ntmps82
  go_wp2_with (first
    | (at_builtin; have qq := P1; refine wp_rowsR _ rp1 _ rfl rfl _ _ rfl w.heap.size _ rp0 rfl 2 rfl rfl O1.out (by decide) (by decide) B1.out.size _ C2.out ?_; intro v2 w2 o2 b2; have O2 := Lib.hid o2; have B2 := Lib.hid (B1.out.trans b2); clear o2 b2 P1)
    | (at_builtin; have qq := P2; refine wp_rowsR _ rp2 _ rfl rfl _ _ rfl w.heap.size _ (rp0 ++ rp1) rfl 3 rfl rfl O2.out (by decide) (by decide) B2.out.size _ C3.out ?_; intro v3 w3 o3 b3; have O3 := Lib.hid o3; have B3 := Lib.hid (B2.out.trans b3); clear o3 b3 P2)
    | (at_builtin; have qq := P3; refine wp_rowsR _ rp3 _ rfl rfl _ _ rfl w.heap.size _ (rp0 ++ rp1 ++ rp2) rfl 4 rfl rfl O3.out (by decide) (by decide) B3.out.size _ C4.out ?_; intro v4 w4 o4 b4; have O4 := Lib.hid o4; have B4 := Lib.hid (B3.out.trans b4); clear o4 b4 P3)
    | (at_builtin; have qq := P4; refine wp_rowsR _ rp4 _ rfl rfl _ _ rfl w.heap.size _ (rp0 ++ rp1 ++ rp2 ++ rp3) rfl 5 rfl rfl O4.out (by decide) (by decide) B4.out.size _ C5.out ?_; intro v5 w5 o5 b5; have O5 := Lib.hid o5; have B5 := Lib.hid (B4.out.trans b5); clear o5 b5 P4)
    | (at_builtin; have qq := P5; refine wp_rowsR _ rp5 _ rfl rfl _ _ rfl w.heap.size _ (rp0 ++ rp1 ++ rp2 ++ rp3 ++ rp4) rfl 1 rfl rfl O5.out (by decide) (by decide) B5.out.size _ C6.out ?_; intro v6 w6 o6 b6; have O6 := Lib.hid o6; have B6 := Lib.hid (B5.out.trans b6); clear o6 b6 P5)
    | (at_builtin; have qq := P6; refine wp_rowsR _ rp6 _ rfl rfl _ _ rfl w.heap.size _ (rp0 ++ rp1 ++ rp2 ++ rp3 ++ rp4 ++ rp5) rfl 6 rfl rfl O6.out (by decide) (by decide) B6.out.size _ C7.out ?_; intro v7 w7 o7 b7; have O7 := Lib.hid o7; have B7 := Lib.hid (B6.out.trans b7); clear o7 b7 P6)
    | (at_builtin; have qq := P7; refine wp_rowsR _ rp7 _ rfl rfl _ _ rfl w.heap.size _ (rp0 ++ rp1 ++ rp2 ++ rp3 ++ rp4 ++ rp5 ++ rp6) rfl 4 rfl rfl O7.out (by decide) (by decide) B7.out.size _ C8.out ?_; intro v8 w8 o8 b8; have O8 := Lib.hid o8; have B8 := Lib.hid (B7.out.trans b8); clear o8 b8 P7))
  obtain ⟨g, cap, hv, hg⟩ := rtb_of O8.out
  subst hv
  go_ret
  exact (show TbE _ _ _ from ⟨g, cap, rfl, hg, B8.out⟩)
end Go.Proofs.YtjbbbejadhojlaaDoor

namespace Go.Proofs.YtjbbbejadhojlaaDoor
open Go.RowKit
set_option linter.unusedVariables false
set_option linter.unusedSimpArgs false

theorem box_all5 {w : World} {x : Nat} {a b c d e : Value} {t : TypeId} (h : w.heap[x]? = some (.cells #[a, b, c, d, e] t)) : w.cell? ⟨x, 0, none⟩ = some a ∧ w.cell? ⟨x, 1, none⟩ = some b ∧ w.cell? ⟨x, 2, none⟩ = some c ∧ w.cell? ⟨x, 3, none⟩ = some d ∧ w.cell? ⟨x, 4, none⟩ = some e := by
  refine ⟨?_, ?_, ?_, ?_, ?_⟩ <;> simp [World.cell?, h]
theorem box_set5 {w : World} {x : Nat} {a b c d e a' b' c' d' e' : Value} {t : TypeId} (h : w.heap[x]? = some (.cells #[a, b, c, d, e] t)) : (((((w.setCell ⟨x, 0, none⟩ a').setCell ⟨x, 1, none⟩ b').setCell ⟨x, 2, none⟩ c').setCell ⟨x, 3, none⟩ d').setCell ⟨x, 4, none⟩ e').heap[x]? = some (.cells #[a', b', c', d', e'] t) := by
  have h0 : (w.setCell ⟨x, 0, none⟩ a').heap[x]? = some (.cells #[a', b, c, d, e] t) := Joins.block_setCell (i := 0) h a'
  generalize w.setCell ⟨x, 0, none⟩ a' = w at h0 ⊢
  have h1 : (w.setCell ⟨x, 1, none⟩ b').heap[x]? = some (.cells #[a', b', c, d, e] t) := Joins.block_setCell (i := 1) h0 b'
  generalize w.setCell ⟨x, 1, none⟩ b' = w at h1 ⊢
  have h2 : (w.setCell ⟨x, 2, none⟩ c').heap[x]? = some (.cells #[a', b', c', d, e] t) := Joins.block_setCell (i := 2) h1 c'
  generalize w.setCell ⟨x, 2, none⟩ c' = w at h2 ⊢
  have h3 : (w.setCell ⟨x, 3, none⟩ d').heap[x]? = some (.cells #[a', b', c', d', e] t) := Joins.block_setCell (i := 3) h2 d'
  generalize w.setCell ⟨x, 3, none⟩ d' = w at h3 ⊢
  exact Joins.block_setCell (i := 4) h3 e'
theorem below5 {B : Nat} {w0 w : World} {g : Nat} (h : Below B w0 w) (hg : B ≤ g) (a0 a1 a2 a3 a4 : Value) :
    Below B w0 (((((w.setCell ⟨g, 0, none⟩ a0).setCell ⟨g, 1, none⟩ a1).setCell ⟨g, 2, none⟩ a2).setCell ⟨g, 3, none⟩ a3).setCell ⟨g, 4, none⟩ a4) :=
  (((((h.setCell (p := ⟨g, 0, none⟩) hg _).setCell (p := ⟨g, 1, none⟩) hg _).setCell (p := ⟨g, 2, none⟩) hg _).setCell (p := ⟨g, 3, none⟩) hg _).setCell (p := ⟨g, 4, none⟩) hg _)
theorem frz5 {w : World} {x : Nat} {a b c d e : Value} {t : TypeId} (h : w.heap[x]? = some (.cells #[a, b, c, d, e] t)) : w.frozen? ⟨x, 0, none⟩ = false ∧ w.frozen? ⟨x, 1, none⟩ = false ∧ w.frozen? ⟨x, 2, none⟩ = false ∧ w.frozen? ⟨x, 3, none⟩ = false ∧ w.frozen? ⟨x, 4, none⟩ = false := by
  refine ⟨?_, ?_, ?_, ?_, ?_⟩ <;> simp [World.frozen?, h]
abbrev refV (n : ByteArray) (a b t p : Int) : Value := .agg #[.string n, .int .i64 a, .int .i64 b, .int .i64 t, .int .i64 p]
/-- What the document's table says of a number. -/
structure RefE (op : Int) (n : ByteArray) (a b t p er : Int) : Prop where
  say : (∃ k : Nat, k < 29 ∧ op = (k : Int) ∧ n = nmA k ∧ a = (rfs k).a ∧ b = (rfs k).b ∧ t = (tkA k : Int) ∧ p = (ptA k : Int) ∧ er = 0) ∨ ((op < 0 ∨ 29 ≤ op) ∧ n = ⟨#[]⟩ ∧ a = 0 ∧ b = 0 ∧ t = 0 ∧ p = 0 ∧ er = 111)
theorem ref_ex (op : Int) : ∃ n a b t p er, RefE op n a b t p er := by
  by_cases h : op < 0 ∨ 29 ≤ op
  · exact ⟨_, _, _, _, _, _, ⟨.inr ⟨h, rfl, rfl, rfl, rfl, rfl, rfl⟩⟩⟩
  · exact ⟨_, _, _, _, _, _, ⟨.inl ⟨op.toNat, by omega, by omega, rfl, rfl, rfl, rfl, rfl, rfl⟩⟩⟩
def zr5 : Obj := .cells #[.string ⟨#[]⟩, .int .i64 0, .int .i64 0, .int .i64 0, .int .i64 0] 145
set_option maxRecDepth 100000 in
set_option maxHeartbeats 2000000 in
theorem refRow_any {op : Int} {n : ByteArray} {a b t p er : Int} (h : RefE op n a b t p er) (w : World) :
    Calls Tryd.prog 70 #[.int .i64 op] w fun e w' => e = .returned (.tuple #[refV n a b t p, .int .i64 er]) ∧ Below w.heap.size w w' := by
  have A := Lib.hid ((Below.refl w.heap.size w).alloc (Nat.le_refl _) zr5)
  have KT := Lib.hid (table_any (w.alloc zr5))
  have HB := Lib.hid (p := ∀ w1, Below (w.alloc zr5).heap.size (w.alloc zr5) w1 → w1.heap[w.heap.size]? = some zr5) (fun w1 b => (b.block _ (by simp)).trans (heap_new w zr5))
  unfold zr5 at *
  rcases h.say with ⟨k, hk, rfl, rfl, rfl, rfl, rfl, rfl, rfl⟩ | ⟨hr, rfl, rfl, rfl, rfl, rfl, rfl⟩
  · have k0 : ¬ (k : Int) < 0 := by omega
    have k1 : decide (29 ≤ k) = false := by simp; omega
    have k2 : decide ((29 : Int) ≤ (k : Int)) = false := by simp; omega
    have RX := Lib.hid (p := ∀ w1 g, RTb w1 g → w1.cell? ⟨g, k * 5, none⟩ = some (.string (nmA k)) ∧ w1.cell? ⟨g, k * 5 + 1, none⟩ = some (.int .i64 (rfs k).a) ∧ w1.cell? ⟨g, k * 5 + 2, none⟩ = some (.int .i64 (rfs k).b) ∧ w1.cell? ⟨g, k * 5 + 3, none⟩ = some (.int .i64 (tkA k : Int)) ∧ w1.cell? ⟨g, k * 5 + 4, none⟩ = some (.int .i64 (ptA k : Int))) (fun w1 g q => q.2 k hk)
    clear h
    generalize nmA k = n at *
    generalize (rfs k).a = a at *
    generalize (rfs k).b = b at *
    generalize ((tkA k : Nat) : Int) = t at *
    generalize ((ptA k : Nat) : Int) = p at *
    go_enter Tryd.func70, Tryd.ntmps70
    go_wp2_with (go_at_call 82; refine KT.out.mono ?_; rintro e w1 ⟨g, cap, rfl, hT, h1⟩; obtain ⟨c0, c1, c2, c3, c4⟩ := RX.out w1 g hT; have hb := HB.out w1 h1; obtain ⟨z0, z1, z2, z3, z4⟩ := box_all5 hb; obtain ⟨f0, f1, f2, f3, f4⟩ := frz5 hb; have E1 := Lib.hid (box_all5 (box_set5 (a' := .string n) (b' := .int .i64 a) (c' := .int .i64 b) (d' := .int .i64 t) (e' := .int .i64 p) hb)); have B1 := Lib.hid (A.out.trans (h1.mono A.out.size)); clear h1 hT hb)
    obtain ⟨r0, r1, r2, r3, r4⟩ := E1.out
    exact bodyPost_ret (v := .tuple #[refV n a b t p, .int .i64 0]) (by simp [results, Tryd.results70, go_sem, r0, r1, r2, r3, r4]) rfl ⟨rfl, below5 B1.out (Nat.le_refl _) _ _ _ _ _⟩
  · by_cases k0 : op < 0
    · clear h hr
      go_enter Tryd.func70, Tryd.ntmps70
      go_wp2_with (go_at_call 82; refine KT.out.mono ?_; rintro e w1 ⟨g, cap, rfl, hT, h1⟩; have hb := HB.out w1 h1; obtain ⟨z0, z1, z2, z3, z4⟩ := box_all5 hb; obtain ⟨f0, f1, f2, f3, f4⟩ := frz5 hb; have E1 := Lib.hid (box_all5 (box_set5 (a' := .string ⟨#[]⟩) (b' := .int .i64 0) (c' := .int .i64 0) (d' := .int .i64 0) (e' := .int .i64 0) hb)); have B1 := Lib.hid (A.out.trans (h1.mono A.out.size)); clear h1 hT hb)
      obtain ⟨r0, r1, r2, r3, r4⟩ := E1.out
      exact bodyPost_ret (v := .tuple #[refV ⟨#[]⟩ 0 0 0 0, .int .i64 111]) (by simp [results, Tryd.results70, go_sem, r0, r1, r2, r3, r4]) rfl ⟨rfl, below5 B1.out (Nat.le_refl _) _ _ _ _ _⟩
    · have k1 : (29 : Int) ≤ op := by omega
      clear h hr
      go_enter Tryd.func70, Tryd.ntmps70
      go_wp2_with (go_at_call 82; refine KT.out.mono ?_; rintro e w1 ⟨g, cap, rfl, hT, h1⟩; have hb := HB.out w1 h1; obtain ⟨z0, z1, z2, z3, z4⟩ := box_all5 hb; obtain ⟨f0, f1, f2, f3, f4⟩ := frz5 hb; have E1 := Lib.hid (box_all5 (box_set5 (a' := .string ⟨#[]⟩) (b' := .int .i64 0) (c' := .int .i64 0) (d' := .int .i64 0) (e' := .int .i64 0) hb)); have B1 := Lib.hid (A.out.trans (h1.mono A.out.size)); clear h1 hT hb)
      obtain ⟨r0, r1, r2, r3, r4⟩ := E1.out
      exact bodyPost_ret (v := .tuple #[refV ⟨#[]⟩ 0 0 0 0, .int .i64 111]) (by simp [results, Tryd.results70, go_sem, r0, r1, r2, r3, r4]) rfl ⟨rfl, below5 B1.out (Nat.le_refl _) _ _ _ _ _⟩
theorem refEffect_any {op : Int} {n : ByteArray} {a b t p er : Int} (h : RefE op n a b t p er) (w : World) :
    Calls Tryd.prog 54 #[.int .i64 op] w fun e w' => e = .returned (.tuple #[.int .i64 t, .int .i64 p, .int .i64 er]) ∧ Below w.heap.size w w' := by
  have K := Lib.hid (refRow_any h w)
  clear h
  go_enter Tryd.func54, Tryd.ntmps54
  go_wp2_with (go_at_call 70; refine K.out.mono ?_; rintro e w1 ⟨rfl, h1⟩; have B1 := Lib.hid h1; clear h1)
  go_region
  all_goals go_wp2
  all_goals
    go_ret3
    exact ⟨rfl, below_dr2 (B1.out.alloc B1.out.size _)⟩
def wi (v b : Int) : Bool := decide (if b < 0 then v = 0 else 0 ≤ v ∧ v ≤ b)
theorem within_any (v b : Int) (w : World) : Calls Tryd.prog 71 #[.int .i64 v, .int .i64 b] w fun e w' => e = .returned (.bool (wi v b)) ∧ w' = w := by
  by_cases hb : b < 0
  · have R := Lib.hid (p := wi v b = (v == 0)) (by unfold wi; simp only [hb, if_true]; rw [Bool.eq_iff_iff]; simp)
    rw [R.out]
    clear R
    go_enter Tryd.func71, Tryd.ntmps71
    go_wp2
    go_ret
    exact ⟨rfl, rfl⟩
  · by_cases h0 : 0 ≤ v <;> by_cases h1 : v ≤ b
    all_goals
      have R := Lib.hid (p := wi v b = decide (0 ≤ v ∧ v ≤ b)) (by unfold wi; simp only [hb, if_false])
      simp only [h0, h1, and_self, and_true, and_false, true_and, false_and, decide_true, decide_false] at R
      rw [R.out]
      clear R
      first | (have h0' : decide (0 ≤ v) = false := by simp; omega) | skip
      first | (have h1' : decide (v ≤ b) = false := by simp; omega) | skip
      go_enter Tryd.func71, Tryd.ntmps71
      go_wp2
      go_ret
      exact ⟨rfl, rfl⟩
end Go.Proofs.YtjbbbejadhojlaaDoor

namespace Go.Proofs.YtjbbbejadhojlaaDoor
open Go.RowKit
set_option linter.unusedVariables false
set_option linter.unusedSimpArgs false

def al (a b ra rb : Int) : Bool := decide (0 ≤ a ∧ a ≤ ra ∧ 0 ≤ b ∧ b ≤ rb)
set_option maxHeartbeats 1000000 in
theorem allows_any (n : ByteArray) (o t p ra rb a b : Int) (h1 : 0 ≤ ra ∧ ra ≤ 262143) (h2 : 0 ≤ rb ∧ rb ≤ 3660) (w : World) :
    Calls Tryd.prog 85 #[rowV n o t p ra rb, .int .i64 a, .int .i64 b] w fun e w' => e = .returned (.bool (al a b ra rb)) ∧ Below w.heap.size w w' := by
  have q1 : IntKind.i64.wrap ra = ra := wrap_id (by omega)
  have q2 : IntKind.i64.wrap rb = rb := wrap_id (by omega)
  clear h1 h2
  have R := Lib.hid (p := al a b ra rb = decide (0 ≤ a ∧ a ≤ ra ∧ 0 ≤ b ∧ b ≤ rb)) rfl
  by_cases c0 : 0 ≤ a
  · by_cases c1 : a ≤ ra
    · by_cases c2 : 0 ≤ b
      · by_cases c3 : b ≤ rb
        · have R := Lib.hid (p := al a b ra rb = true) (by rw [R.out]; exact decide_eq_true ⟨c0, c1, c2, c3⟩)
          go_enter Tryd.func85, Tryd.ntmps85
          go_wp2
          go_ret
          exact ⟨by rw [R.out]; rfl, (Below.refl w.heap.size w).alloc (Nat.le_refl _) _⟩
        · have R := Lib.hid (p := al a b ra rb = false) (by rw [R.out]; exact decide_eq_false (fun q => c3 q.2.2.2))
          have c3' : decide (b ≤ rb) = false := decide_eq_false c3
          go_enter Tryd.func85, Tryd.ntmps85
          go_wp2
          go_ret
          exact ⟨by rw [R.out]; rfl, (Below.refl w.heap.size w).alloc (Nat.le_refl _) _⟩
      · have R := Lib.hid (p := al a b ra rb = false) (by rw [R.out]; exact decide_eq_false (fun q => c2 q.2.2.1))
        have c2' : decide (0 ≤ b) = false := decide_eq_false c2
        go_enter Tryd.func85, Tryd.ntmps85
        go_wp2
        go_ret
        exact ⟨by rw [R.out]; rfl, (Below.refl w.heap.size w).alloc (Nat.le_refl _) _⟩
    · have R := Lib.hid (p := al a b ra rb = false) (by rw [R.out]; exact decide_eq_false (fun q => c1 q.2.1))
      have c1' : decide (a ≤ ra) = false := decide_eq_false c1
      go_enter Tryd.func85, Tryd.ntmps85
      go_wp2
      go_ret
      exact ⟨by rw [R.out]; rfl, (Below.refl w.heap.size w).alloc (Nat.le_refl _) _⟩
  · have R := Lib.hid (p := al a b ra rb = false) (by rw [R.out]; exact decide_eq_false (fun q => c0 q.1))
    have c0' : decide (0 ≤ a) = false := decide_eq_false c0
    go_enter Tryd.func85, Tryd.ntmps85
    go_wp2
    go_ret
    exact ⟨by rw [R.out]; rfl, (Below.refl w.heap.size w).alloc (Nat.le_refl _) _⟩

/-- What Valid answers. -/
def okV (i : In) : Int := if i.okP then 0 else 111
theorem okV_pos {i : In} (h : i.okP) : okV i = 0 := if_pos h
theorem okV_neg {i : In} (h : ¬ i.okP) : okV i = 111 := if_neg h
theorem okV_in {k : Nat} (hk : k < 29) (a b : Int) : okV ⟨k, a, b⟩ = if al a b (baA k) (bbA k) = true then 0 else 111 := by
  by_cases h : 0 ≤ a ∧ a ≤ (baA k : Int) ∧ 0 ≤ b ∧ b ≤ (bbA k : Int)
  · rw [if_pos (show al a b (baA k) (bbA k) = true from decide_eq_true h)]
    exact okV_pos ⟨by simp, by simp; omega, h.1, by simpa using h.2.1, h.2.2.1, by simpa using h.2.2.2⟩
  · rw [if_neg (show ¬ al a b (baA k) (bbA k) = true from fun q => h (of_decide_eq_true q))]
    exact okV_neg (fun q => h ⟨q.2.2.1, by simpa using q.2.2.2.1, q.2.2.2.2.1, by simpa using q.2.2.2.2.2⟩)
theorem okV_out {o : Int} (h : o < 0 ∨ 29 ≤ o) (a b : Int) : okV ⟨o, a, b⟩ = 111 :=
  okV_neg (fun q => by have h1 : 0 ≤ o := q.1; have h2 : o < 29 := q.2.1; omega)
set_option maxHeartbeats 1000000 in
theorem valid_any (o a b : Int) (w : World) (hR : Rws w) :
    Calls Tryd.prog 76 #[.agg #[.int .i64 o, .int .i64 a, .int .i64 b]] w fun e w' => e = .returned (.int .i64 (okV ⟨o, a, b⟩)) ∧ Below w.heap.size w w' := by
  obtain ⟨n, on, t, p, ra, rb, er, hE⟩ := row_ex o
  have sm := hE.small
  have KR := Lib.hid (rowOf_any hE (w.alloc (.cells #[.int .i64 o, .int .i64 a, .int .i64 b] 51)) (hR.alloc _))
  have A := Lib.hid ((Below.refl w.heap.size w).alloc (Nat.le_refl _) (.cells #[.int .i64 o, .int .i64 a, .int .i64 b] 51))
  have KA := Lib.hid (fun W => allows_any n on t p ra rb a b sm.2.2.2.1 sm.2.2.2.2.1 W)
  have CB := Lib.hid (p := ∀ w1, Below (w.alloc (.cells #[.int .i64 o, .int .i64 a, .int .i64 b] 51)).heap.size (w.alloc (.cells #[.int .i64 o, .int .i64 a, .int .i64 b] 51)) w1 → (∀ o, (w1.alloc o).cell? ⟨w.heap.size, 1, none⟩ = some (.int .i64 a)) ∧ (∀ o, (w1.alloc o).cell? ⟨w.heap.size, 2, none⟩ = some (.int .i64 b))) (fun w1 h => ⟨fun o => (((Below.refl w1.heap.size w1).alloc (Nat.le_refl _) o).cell (p := ⟨w.heap.size, 1, none⟩) (Nat.lt_of_lt_of_le (by simp) h.size)).trans ((h.cell (p := ⟨w.heap.size, 1, none⟩) (by simp)).trans (by simp)), fun o => (((Below.refl w1.heap.size w1).alloc (Nat.le_refl _) o).cell (p := ⟨w.heap.size, 2, none⟩) (Nat.lt_of_lt_of_le (by simp) h.size)).trans ((h.cell (p := ⟨w.heap.size, 2, none⟩) (by simp)).trans (by simp))⟩)
  have SZ := Lib.hid (p := ∀ w1, Below (w.alloc (.cells #[.int .i64 o, .int .i64 a, .int .i64 b] 51)).heap.size (w.alloc (.cells #[.int .i64 o, .int .i64 a, .int .i64 b] 51)) w1 → ¬ w.heap.size = w1.heap.size ∧ ¬ w1.heap.size = w.heap.size) (fun w1 h => by have := h.size; simp at this; omega)
  rcases hE.say with ⟨k, hk, rfl, e1, e2, e3, e4, rfl, rfl, rfl⟩ | ⟨hr, e1, e2, e3, e4, e5, e6, rfl⟩
  · rw [okV_in hk]
    clear hR hE sm e1 e2 e3 e4
    generalize ((baA k : Nat) : Int) = ra at *
    generalize ((bbA k : Nat) : Int) = rb at *
    cases hv : al a b ra rb with
    | true =>
      rw [hv] at KA
      go_enter Tryd.func76, Tryd.ntmps76
      go_wp2_with (first
        | (go_at_call 64; refine KR.out.mono ?_; rintro e w1 ⟨rfl, h1⟩; have B1 := Lib.hid (A.out.trans (h1.mono A.out.size)); obtain ⟨d1, d2⟩ := CB.out w1 h1; obtain ⟨n1, n2⟩ := SZ.out w1 h1; clear h1)
        | (go_at_call 85; refine (KA.out _).mono ?_; rintro e w2 ⟨rfl, h2⟩; have B2 := Lib.hid ((B1.out.alloc B1.out.size _).trans (h2.mono (by have := B1.out.size; simp; omega))); clear h2))
      go_ret
      exact ⟨rfl, B2.out⟩
    | false =>
      rw [hv] at KA
      go_enter Tryd.func76, Tryd.ntmps76
      go_wp2_with (first
        | (go_at_call 64; refine KR.out.mono ?_; rintro e w1 ⟨rfl, h1⟩; have B1 := Lib.hid (A.out.trans (h1.mono A.out.size)); obtain ⟨d1, d2⟩ := CB.out w1 h1; obtain ⟨n1, n2⟩ := SZ.out w1 h1; clear h1)
        | (go_at_call 85; refine (KA.out _).mono ?_; rintro e w2 ⟨rfl, h2⟩; have B2 := Lib.hid ((B1.out.alloc B1.out.size _).trans (h2.mono (by have := B1.out.size; simp; omega))); clear h2))
      go_ret
      exact ⟨rfl, B2.out⟩
  · rw [okV_out hr]
    clear hR hE sm hr e1 e2 e3 e4 e5 e6
    go_enter Tryd.func76, Tryd.ntmps76
    go_wp2_with (first
      | (go_at_call 64; refine KR.out.mono ?_; rintro e w1 ⟨rfl, h1⟩; have B1 := Lib.hid (A.out.trans (h1.mono A.out.size)); obtain ⟨d1, d2⟩ := CB.out w1 h1; obtain ⟨n1, n2⟩ := SZ.out w1 h1; clear h1))
    go_ret
    exact ⟨rfl, B1.out.alloc B1.out.size _⟩
theorem wi_al {k : Nat} (hk : k < 29) (a b : Int) : (wi a (rfs k).a && wi b (rfs k).b) = al a b (baA k) (bbA k) := by
  obtain ⟨t1, t2, t3, t4, t5, t6, t7⟩ := tab_facts k hk
  unfold wi al rfs
  rw [Bool.eq_iff_iff]
  simp only [Bool.and_eq_true, decide_eq_true_eq]
  by_cases h1 : 1 ≤ onA k
  · by_cases h2 : 2 ≤ onA k
    · simp only [h1, h2, if_true]
      rw [if_neg (by omega), if_neg (by omega)]
      omega
    · have := t7 (by omega)
      simp only [h1, h2, if_true, if_false]
      rw [if_neg (by omega), if_pos (by omega)]
      omega
  · have := t6 (by omega)
    have := t7 (by omega)
    simp only [h1, show ¬ 2 ≤ onA k by omega, if_false]
    rw [if_pos (by omega), if_pos (by omega)]
    omega
set_option maxHeartbeats 1000000 in
theorem refValid_any (o a b : Int) (w : World) :
    Calls Tryd.prog 49 #[.agg #[.int .i64 o, .int .i64 a, .int .i64 b]] w fun e w' => e = .returned (.int .i64 (okV ⟨o, a, b⟩)) ∧ Below w.heap.size w w' := by
  obtain ⟨n, ra, rb, t, p, er, hE⟩ := ref_ex o
  have KR := Lib.hid (refRow_any hE (w.alloc (.cells #[.int .i64 o, .int .i64 a, .int .i64 b] 51)))
  have A := Lib.hid ((Below.refl w.heap.size w).alloc (Nat.le_refl _) (.cells #[.int .i64 o, .int .i64 a, .int .i64 b] 51))
  have CB := Lib.hid (p := ∀ w1, Below (w.alloc (.cells #[.int .i64 o, .int .i64 a, .int .i64 b] 51)).heap.size (w.alloc (.cells #[.int .i64 o, .int .i64 a, .int .i64 b] 51)) w1 → (∀ o, (w1.alloc o).cell? ⟨w.heap.size, 1, none⟩ = some (.int .i64 a)) ∧ (∀ o, (w1.alloc o).cell? ⟨w.heap.size, 2, none⟩ = some (.int .i64 b))) (fun w1 h => ⟨fun o => (((Below.refl w1.heap.size w1).alloc (Nat.le_refl _) o).cell (p := ⟨w.heap.size, 1, none⟩) (Nat.lt_of_lt_of_le (by simp) h.size)).trans ((h.cell (p := ⟨w.heap.size, 1, none⟩) (by simp)).trans (by simp)), fun o => (((Below.refl w1.heap.size w1).alloc (Nat.le_refl _) o).cell (p := ⟨w.heap.size, 2, none⟩) (Nat.lt_of_lt_of_le (by simp) h.size)).trans ((h.cell (p := ⟨w.heap.size, 2, none⟩) (by simp)).trans (by simp))⟩)
  have SZ := Lib.hid (p := ∀ w1, Below (w.alloc (.cells #[.int .i64 o, .int .i64 a, .int .i64 b] 51)).heap.size (w.alloc (.cells #[.int .i64 o, .int .i64 a, .int .i64 b] 51)) w1 → ¬ w.heap.size = w1.heap.size ∧ ¬ w1.heap.size = w.heap.size) (fun w1 h => by have := h.size; simp at this; omega)
  rcases hE.say with ⟨k, hk, rfl, e1, rfl, rfl, e2, e3, rfl⟩ | ⟨hr, e1, e2, e3, e4, e5, rfl⟩
  · rw [okV_in hk, ← wi_al hk]
    have KA := Lib.hid (fun W => within_any a (rfs k).a W)
    have KB := Lib.hid (fun W => within_any b (rfs k).b W)
    clear hE e1 e2 e3
    generalize (rfs k).a = ra at *
    generalize (rfs k).b = rb at *
    cases hv : wi a ra <;> cases hu : wi b rb
    all_goals
      rw [hv] at KA
      rw [hu] at KB
      have P0 : True := trivial
      go_enter Tryd.func49, Tryd.ntmps49
      go_wp2_with (first
        | (go_at_call 70; refine KR.out.mono ?_; rintro e w1 ⟨rfl, h1⟩; have B1 := Lib.hid (A.out.trans (h1.mono A.out.size)); obtain ⟨d1, d2⟩ := CB.out w1 h1; obtain ⟨n1, n2⟩ := SZ.out w1 h1; clear h1)
        | (go_at_call 71; have qq := P0; refine (KA.out _).mono ?_; rintro e w2 ⟨rfl, h2⟩; subst h2; clear P0)
        | (go_at_call 71; refine (KB.out _).mono ?_; rintro e w2 ⟨rfl, h2⟩; subst h2))
      go_ret
      exact ⟨rfl, B1.out.alloc B1.out.size _⟩
  · rw [okV_out hr]
    clear hE hr e1 e2 e3 e4 e5
    go_enter Tryd.func49, Tryd.ntmps49
    go_wp2_with (first
      | (go_at_call 70; refine KR.out.mono ?_; rintro e w1 ⟨rfl, h1⟩; have B1 := Lib.hid (A.out.trans (h1.mono A.out.size)); obtain ⟨d1, d2⟩ := CB.out w1 h1; obtain ⟨n1, n2⟩ := SZ.out w1 h1; clear h1))
    go_ret
    exact ⟨rfl, B1.out.alloc B1.out.size _⟩
end Go.Proofs.YtjbbbejadhojlaaDoor

namespace Go.Proofs.YtjbbbejadhojlaaDoor
open Go.RowKit
set_option linter.unusedVariables false
set_option linter.unusedSimpArgs false
/-- Is what an instruction names there? -/
def inB (p : Pg) (i : In) : Prop := (i.o = 1 → i.a < p.pool.length) ∧ (i.o = 3 → i.a < p.names.length) ∧ (i.o = 28 → i.a < p.curs.length) ∧ (i.o = 4 ∨ i.o = 5 → i.a < p.cells) ∧ (i.o = 6 ∨ i.o = 7 → i.a < p.slots)
def mkB (op : Int) (bs : List Bool) (i : In) : List Bool := if i.o = op then bs.set i.a.toNat true else bs
/-- The marks, where they lie. -/
structure US (W : World) (p : Pg) (B ub gn gu gp : Nat) (bn bu bp : List Bool) : Prop where
  box : BkP W ub #[.slice (some ⟨gn, 0, none⟩) bn.length bn.length, .slice (some ⟨gu, 0, none⟩) bu.length bu.length, .slice (some ⟨gp, 0, none⟩) bp.length bp.length, .int .i64 p.cells, .int .i64 p.slots] 116
  rn : RBo W B gn bn
  ru : RBo W B gu bu
  rp : RBo W B gp bp
  ln : bn.length = p.names.length
  lu : bu.length = p.curs.length
  lp : bp.length = p.pool.length
  ne : gn ≠ gu ∧ gn ≠ gp ∧ gu ≠ gp ∧ ub ≠ gn ∧ ub ≠ gu ∧ ub ≠ gp
  bb : B ≤ ub ∧ B ≤ gn ∧ B ≤ gu ∧ B ≤ gp
theorem US.later {W W' : World} {p : Pg} {B ub gn gu gp : Nat} {bn bu bp : List Bool} (h : US W p B ub gn gu gp bn bu bp) (g : Below W.heap.size W W') : US W' p B ub gn gu gp bn bu bp :=
  ⟨h.box.laterP g, h.rn.later g, h.ru.later g, h.rp.later g, h.ln, h.lu, h.lp, h.ne, h.bb⟩
theorem box_set (W : World) (g i : Nat) (v : Value) {b : Nat} {cs : Array Value} {t : TypeId} (h : BkP W b cs t) (hn : b ≠ g) : BkP (W.setCell ⟨g, i, none⟩ v) b cs t := h.other g i v (fun e => hn e.symm)
theorem US.setN {W : World} {p : Pg} {B ub gn gu gp : Nat} {bn bu bp : List Bool} (h : US W p B ub gn gu gp bn bu bp) (i : Nat) : US (W.setCell ⟨gn, i, none⟩ (.bool true)) p B ub gn gu gp (bn.set i true) bu bp :=
  ⟨by rw [List.length_set]; exact box_set W gn i _ h.box h.ne.2.2.2.1, h.rn.set i, h.ru.far (setCell_gr W gn i _) h.ne.1, h.rp.far (setCell_gr W gn i _) h.ne.2.1, by rw [List.length_set]; exact h.ln, h.lu, h.lp, h.ne, h.bb⟩
theorem US.setU {W : World} {p : Pg} {B ub gn gu gp : Nat} {bn bu bp : List Bool} (h : US W p B ub gn gu gp bn bu bp) (i : Nat) : US (W.setCell ⟨gu, i, none⟩ (.bool true)) p B ub gn gu gp bn (bu.set i true) bp :=
  ⟨by rw [List.length_set]; exact box_set W gu i _ h.box h.ne.2.2.2.2.1, h.rn.far (setCell_gr W gu i _) (fun e => h.ne.1 e.symm), h.ru.set i, h.rp.far (setCell_gr W gu i _) h.ne.2.2.1, h.ln, by rw [List.length_set]; exact h.lu, h.lp, h.ne, h.bb⟩
theorem US.setP {W : World} {p : Pg} {B ub gn gu gp : Nat} {bn bu bp : List Bool} (h : US W p B ub gn gu gp bn bu bp) (i : Nat) : US (W.setCell ⟨gp, i, none⟩ (.bool true)) p B ub gn gu gp bn bu (bp.set i true) :=
  ⟨by rw [List.length_set]; exact box_set W gp i _ h.box h.ne.2.2.2.2.2, h.rn.far (setCell_gr W gp i _) (fun e => h.ne.2.1 e.symm), h.ru.far (setCell_gr W gp i _) (fun e => h.ne.2.2.1 e.symm), h.rp.set i, h.ln, h.lu, by rw [List.length_set]; exact h.lp, h.ne, h.bb⟩
theorem box_all5P {w : World} {x : Nat} {a b c d e : Value} {t : TypeId} (k : w.heap[x]? = some (.cells #[a, b, c, d, e] t)) : w.cell? ⟨x, 0, none⟩ = some a ∧ w.cell? ⟨x, 1, none⟩ = some b ∧ w.cell? ⟨x, 2, none⟩ = some c ∧ w.cell? ⟨x, 3, none⟩ = some d ∧ w.cell? ⟨x, 4, none⟩ = some e := by
  refine ⟨?_, ?_, ?_, ?_, ?_⟩ <;> simp [World.cell?, k]
/-- What take leaves. -/
structure TkE (w : World) (p : Pg) (B ub gn gu gp : Nat) (bn bu bp : List Bool) (i : In) (e : Ending) (w' : World) : Prop where
  say : ∃ b, e = .returned (.bool b) ∧ (b = true ↔ inB p i) ∧ (b = true → US w' p B ub gn gu gp (mkB 3 bn i) (mkB 28 bu i) (mkB 1 bp i))
  bel : Below B w w'
end Go.Proofs.YtjbbbejadhojlaaDoor
