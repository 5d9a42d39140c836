import Derived.Test.YtccjeipkljdhdaaGreatDoorXAB
import Derived.Lib.OthersKept
import Derived.WalkSmall
import Derived.Deep.AppendLies
import Derived.Test.YtccjeipkljdhdaaGreatDoorXAE
import Derived.Test.YtccjeipkljdhdaaGreatDoorXAA
import Derived.Test.YtccjeipkljdhdaaGreatDoorRows
import Derived.WalkKit
import Derived.WalkSpells
import Derived.Below
import Derived.BigCall
import Derived.BigGuard
import Derived.BigQuiet
import Derived.Deep.QuietTactic
import Derived.Deep.RegionHeld3
import Derived.Lib.LaidTab
import Derived.Lib.Hide
import Derived.Lib.SmallJoins
import Derived.Laws.AppendOwn
import Derived.Laws.AppendOwnNone
import Derived.Laws.OwnMore
import Derived.Maps.AppendAt
namespace Go.Proofs.YtccjeipkljdhdaaGreatDoor
open Go.RowKit
set_option linter.unusedVariables false
set_option linter.unusedSimpArgs false

theorem isOfWord_any (c : Int) (w : World) : Calls Tryz.prog 65 #[.int .i32 c] w fun e w' => e = .returned (.bool (decide (c ≠ 32 ∧ c ≠ 9 ∧ c ≠ 13 ∧ c ≠ 59))) ∧ w' = w := by
  obtain ⟨R, hR⟩ : ∃ R : Bool, decide (c ≠ 32 ∧ c ≠ 9 ∧ c ≠ 13 ∧ c ≠ 59) = R := ⟨_, rfl⟩
  have HR := Lib.hid hR
  rw [hR]
  clear hR
  by_cases h1 : c = 32
  · subst h1
    obtain rfl : R = false := by rw [← HR.out]; rfl
    clear HR
    go_enter Tryz.func65, Tryz.ntmps65
    go_wp2
    go_ret
    exact ⟨rfl, rfl⟩
  by_cases h2 : c = 9
  · subst h2
    obtain rfl : R = false := by rw [← HR.out]; rfl
    clear HR h1
    go_enter Tryz.func65, Tryz.ntmps65
    go_wp2
    go_ret
    exact ⟨rfl, rfl⟩
  by_cases h3 : c = 13
  · subst h3
    obtain rfl : R = false := by rw [← HR.out]; rfl
    clear HR h1 h2
    go_enter Tryz.func65, Tryz.ntmps65
    go_wp2
    go_ret
    exact ⟨rfl, rfl⟩
  by_cases h4 : c = 59
  · subst h4
    obtain rfl : R = false := by rw [← HR.out]; rfl
    clear HR h1 h2 h3
    go_enter Tryz.func65, Tryz.ntmps65
    go_wp2
    go_ret
    exact ⟨rfl, rfl⟩
  obtain rfl : R = true := by rw [← HR.out]; simp [h1, h2, h3, h4]
  have k1 : (c != 32) = true := by simp [h1]
  have k2 : (c != 9) = true := by simp [h2]
  have k3 : (c != 13) = true := by simp [h3]
  have k4 : (c != 59) = true := by simp [h4]
  clear HR h1 h2 h3 h4
  go_enter Tryz.func65, Tryz.ntmps65
  go_wp2
  go_ret
  exact ⟨rfl, rfl⟩
theorem wdsL_len (s : ByteArray) : ∀ n i, s.size - i ≤ n → (wdsL s i).length ≤ s.size - i
  | 0, i, h => by rw [wdsL_end (by omega)]; simp
  | n + 1, i, h => by
    rw [wdsL]
    split
    · rename_i q
      have a := fy_ge bkA s i
      have b := fy_go q.1 q.2
      have c := fy_ge wrA s (fy bkA s i + 1)
      have d := fy_le (p := wrA) (s := s) (i := fy bkA s i) (by omega)
      have ih := wdsL_len s n (fy wrA s (fy bkA s i)) (by omega)
      simp only [List.length_cons]
      omega
    · simp
/-- The words so far. -/
def WI (s : ByteArray) (pos bg : Nat) (op : Bool) (ws : List ByteArray) : Prop :=
  (op = true ∧ bg ≤ pos ∧ wdsL s 0 = ws ++ (s.extract bg (fy wrA s pos) :: wdsL s (fy wrA s pos))) ∨ (op = false ∧ wdsL s 0 = ws ++ wdsL s pos)
theorem WI.len {s : ByteArray} {pos bg : Nat} {op : Bool} {ws : List ByteArray} (h : WI s pos bg op ws) : ws.length ≤ s.size := by
  have l := wdsL_len s _ 0 (Nat.le_refl _)
  rcases h with ⟨_, _, e⟩ | ⟨_, e⟩
  · rw [e, List.length_append] at l; omega
  · rw [e, List.length_append] at l; omega
/-- The row of words that grows. -/
structure ApW (w W : World) (B pos : Nat) (s : ByteArray) (v0 v : Value) (us : List ByteArray) : Prop where
  own : W.ownsRow B 9 1 v us.length (us.map Value.string)
  gr : w.grownBy W v0.ownBlock
  it : W.heap[w.heap.size]? = some (.stringIter s pos)
  lies : v.ownBlock = v0.ownBlock ∨ ∀ z, v.ownBlock = some z → w.heap.size < z
theorem it_ne {W : World} {B k n : Nat} {v : Value} {s : ByteArray} {pos : Nat} {xs : List Value} (h : W.ownsRow B 9 1 v n xs) (hk : W.heap[k]? = some (.stringIter s pos)) : v.ownBlock ≠ some k := by
  intro e
  rcases h.2 with ⟨rfl, _⟩ | ⟨g, cap, cur, rfl, _, hg, _⟩
  · cases e
  · simp only [Value.ownBlock, Option.some.injEq] at e
    subst e
    rw [hk] at hg
    cases hg
theorem ApW.move {w W : World} {B pos : Nat} {s : ByteArray} {v0 v : Value} {us : List ByteArray} (h : ApW w W B pos s v0 v us) (p : Nat) : ApW w (W.iterAt w.heap.size s p) B p s v0 v us := by
  have lt : w.heap.size < W.heap.size := (Array.getElem?_eq_some_iff.1 h.it).1
  have g : W.grownBy (W.iterAt w.heap.size s p) (some w.heap.size) := ⟨rfl, rfl, rfl, by rw [Lib.iterAt_size]; exact Nat.le_refl _, fun k _ hk => Lib.iterAt_other _ _ _ _ _ (fun e => hk (by rw [e]))⟩
  refine ⟨h.own.kept g (.inr (it_ne h.own h.it)), ⟨h.gr.os, h.gr.tape, h.gr.output, by rw [Lib.iterAt_size]; exact h.gr.size, fun k k1 k2 => ?_⟩, Lib.iterAt_heap _ _ _ _ _ h.it, h.lies⟩
  rw [Lib.iterAt_other _ _ _ _ _ (by omega)]
  exact h.gr.block k k1 k2
theorem infoStr : (Tryz.prog.info? 9).map (fun i => (i.zero, i.size, i.bytes)) = some (some (.string ⟨#[]⟩), 1, 16) := by kernel_rfl
/-- 'words = append(words, ..)'. -/
theorem wp_wd {ops : Array Oper} {rest : List Oper} {o : Oper} {a : Act} {Q : Exit → Act → World → Prop} (w W : World) (B pos : Nat) (s u : ByteArray) (v0 : Value) (us : List ByteArray) (hgd : o.guard = none) (sl x : Operand)
    (ho : o.op = .call { callee := .builtin .append, args := #[sl, x], argTypes := #[23, 23] }) (v : Value) (hs : a.eval sl = v)
    (hx : a.eval x = .slice (some ⟨W.heap.size, 0, none⟩) 1 1) (h0 : ApW w W B pos s v0 v us) (hl : us.length ≤ 1073741824) (hb : B ≤ W.heap.size) (hb0 : B ≤ w.heap.size)
    (h : ∀ v' w', ApW w w' B pos s v0 v' (us ++ [u]) → wpList Tryz.prog ops Q rest (a.put o.dst v') w') :
    wpList Tryz.prog ops Q (o :: rest) a (W.alloc (.cells #[.string u] 9)) := by
  obtain ⟨i0, hi, hz0, hz1, hz2⟩ := info_parts infoStr
  have hown := h0.own
  have lt : w.heap.size < W.heap.size := (Array.getElem?_eq_some_iff.1 h0.it).1
  refine wpList_append_lies _ hgd sl x 23 ho B 9 i0 (.string ⟨#[]⟩) 1 16 Tryz.underlying23 hi hz0 hz1 hz2 rfl (by decide) v _ _ hs (hown.alloc _) ⟨W.heap.size, 0, none⟩ 1 1 [.string u] hx rfl ?_ ?_ (by decide) (by unfold maxLen; omega) (by omega) (by simp; omega) (W.heap.size + 1) (by simp) ?_
  · intro j v hj
    match j, hj with
    | 0, hj => simp at hj; subst hj; simp [Addr.add]
  · intro v hv
    rw [List.mem_singleton.1 hv]; rfl
  · intro g cap w' h1 h2 h3 _
    have al := allocBP W (.cells #[.string u] 9)
    have ne : v.ownBlock ≠ some w.heap.size := it_ne hown h0.it
    refine h _ w' ⟨?_, ⟨h2.os.trans h0.gr.os, h2.tape.trans h0.gr.tape, h2.output.trans h0.gr.output, Nat.le_trans h0.gr.size (Nat.le_trans al.size h2.size), fun k k1 k2 => ?_⟩, ?_, ?_⟩
    · rw [List.length_append, List.map_append]; exact h1
    · have k3 : k < W.heap.size := Nat.lt_of_lt_of_le k1 h0.gr.size
      have k4 : some k ≠ v.ownBlock := by
        intro e
        rcases h0.lies with q | q
        · exact k2 (e.trans q)
        · have := q k e.symm; omega
      exact (h2.block k (Nat.lt_of_lt_of_le k3 al.size) k4).trans ((al.block k k3).trans (h0.gr.block k k1 k2))
    · exact (h2.block _ (Nat.lt_of_lt_of_le lt al.size) (fun e => ne e.symm)).trans ((al.block _ lt).trans h0.it)
    · rcases h3 with q | q
      · rcases h0.lies with r | r
        · left
          show some g = _
          rw [← r, q]
        · right
          intro z e
          exact r z (by rw [q]; exact e)
      · right
        intro z e
        simp only [Value.ownBlock, Option.some.injEq] at e
        omega
end Go.Proofs.YtccjeipkljdhdaaGreatDoor

namespace Go.Proofs.YtccjeipkljdhdaaGreatDoor
set_option linter.unusedVariables false
set_option linter.unusedSimpArgs false

end Go.Proofs.YtccjeipkljdhdaaGreatDoor

namespace Go.Proofs.YtccjeipkljdhdaaGreatDoor
open Go.RowKit
set_option linter.unusedVariables false
set_option linter.unusedSimpArgs false

/-- The table, where the world holds it. -/
def Rws (w : World) : Prop := 3 < w.heap.size ∧ ∀ k : Nat, k < 29 → w.cell? ⟨3, k * 6, none⟩ = some (.string (nmA k)) ∧ w.cell? ⟨3, k * 6 + 1, none⟩ = some (.int .u8 (onA k : Int)) ∧ w.cell? ⟨3, k * 6 + 2, none⟩ = some (.int .u8 (tkA k : Int)) ∧ w.cell? ⟨3, k * 6 + 3, none⟩ = some (.int .u8 (ptA k : Int)) ∧ w.cell? ⟨3, k * 6 + 4, none⟩ = some (.int .i32 (baA k : Int)) ∧ w.cell? ⟨3, k * 6 + 5, none⟩ = some (.int .i32 (bbA k : Int))
theorem Rws.later {w w' : World} {n : Nat} (h : Rws w) (b : Below n w w') (hn : w.heap.size ≤ n) : Rws w' := by
  refine ⟨Nat.lt_of_lt_of_le h.1 b.size, fun k hk => ?_⟩
  have g : ∀ o, w'.cell? ⟨3, o, none⟩ = w.cell? ⟨3, o, none⟩ := fun o => b.cell (p := ⟨3, o, none⟩) (Nat.lt_of_lt_of_le h.1 hn)
  rw [g, g, g, g, g, g]
  exact h.2 k hk
theorem Rws.alloc {w : World} (h : Rws w) (c : Obj) : Rws (w.alloc c) := h.later ((Below.refl _ _).alloc (Nat.le_refl _) _) (Nat.le_refl _)
theorem Rws.below {w w' : World} (h : Rws w) (b : Below w.heap.size w w') : Rws w' := h.later b (Nat.le_refl _)

theorem heap_new (w : World) (o : Obj) : (w.alloc o).heap[w.heap.size]? = some o := by show (w.heap.push o)[w.heap.size]? = _; simp
theorem box_all6 {w : World} {x : Nat} {a b c d e f : Value} {t : TypeId} (h : w.heap[x]? = some (.cells #[a, b, c, d, e, f] t)) : w.cell? ⟨x, 0, none⟩ = some a ∧ w.cell? ⟨x, 1, none⟩ = some b ∧ w.cell? ⟨x, 2, none⟩ = some c ∧ w.cell? ⟨x, 3, none⟩ = some d ∧ w.cell? ⟨x, 4, none⟩ = some e ∧ w.cell? ⟨x, 5, none⟩ = some f := by
  refine ⟨?_, ?_, ?_, ?_, ?_, ?_⟩ <;> simp [World.cell?, h]
/-- A row, as a value. -/
abbrev rowV (n : ByteArray) (o t p a b : Int) : Value := .agg #[.string n, .int .u8 o, .int .u8 t, .int .u8 p, .int .i32 a, .int .i32 b]
def zr : Obj := .cells #[.string ⟨#[]⟩, .int .u8 0, .int .u8 0, .int .u8 0, .int .i32 0, .int .i32 0] 90
set_option maxHeartbeats 1000000 in
theorem rowOf_in (k : Nat) (hk : k < 29) (w : World) (h : Rws w) :
    Calls Tryz.prog 48 #[.int .i64 (k : Int)] w fun e w' => e = .returned (.tuple #[rowV (nmA k) (onA k : Int) (tkA k : Int) (ptA k : Int) (baA k : Int) (bbA k : Int), .int .i64 0]) ∧ Below w.heap.size w w' := by
  obtain ⟨c0, c1, c2, c3, c4, c5⟩ := (h.alloc zr).2 k hk
  unfold zr at c0 c1 c2 c3 c4 c5
  generalize nmA k = n at *
  generalize ((onA k : Nat) : Int) = o at *
  generalize ((tkA k : Nat) : Int) = t at *
  generalize ((ptA k : Nat) : Int) = p at *
  generalize ((baA k : Nat) : Int) = a at *
  generalize ((bbA k : Nat) : Int) = b at *
  clear h
  have k0 : ¬ (k : Int) < 0 := by omega
  have k1 : decide (29 ≤ k) = false := by simp; omega
  have k2 : decide ((29 : Int) ≤ (k : Int)) = false := by simp; omega
  go_enter Tryz.func48, Tryz.ntmps48
  go_wp2
  obtain ⟨r0, r1, r2, r3, r4, r5⟩ := box_all6 (heap_new w (.cells #[.string n, .int .u8 o, .int .u8 t, .int .u8 p, .int .i32 a, .int .i32 b] 90))
  exact bodyPost_ret (v := .tuple #[rowV n o t p a b, .int .i64 0]) (by simp [results, Tryz.results48, go_sem, r0, r1, r2, r3, r4, r5]) rfl ⟨rfl, (Below.refl w.heap.size w).alloc (Nat.le_refl _) _⟩
set_option maxHeartbeats 1000000 in
theorem rowOf_out (op : Int) (w : World) (h : op < 0 ∨ 29 ≤ op) :
    Calls Tryz.prog 48 #[.int .i64 op] w fun e w' => e = .returned (.tuple #[rowV ⟨#[]⟩ 0 0 0 0 0, .int .i64 111]) ∧ Below w.heap.size w w' := by
  have R := Lib.hid (box_all6 (heap_new w (.cells #[.string ⟨#[]⟩, .int .u8 0, .int .u8 0, .int .u8 0, .int .i32 0, .int .i32 0] 90)))
  by_cases k0 : op < 0
  · clear h
    go_enter Tryz.func48, Tryz.ntmps48
    go_wp2
    obtain ⟨r0, r1, r2, r3, r4, r5⟩ := R.out
    exact bodyPost_ret (v := .tuple #[rowV ⟨#[]⟩ 0 0 0 0 0, .int .i64 111]) (by simp [results, Tryz.results48, go_sem, r0, r1, r2, r3, r4, r5]) rfl ⟨rfl, (Below.refl w.heap.size w).alloc (Nat.le_refl _) _⟩
  · have k1 : (29 : Int) ≤ op := by omega
    clear h
    go_enter Tryz.func48, Tryz.ntmps48
    go_wp2
    obtain ⟨r0, r1, r2, r3, r4, r5⟩ := R.out
    exact bodyPost_ret (v := .tuple #[rowV ⟨#[]⟩ 0 0 0 0 0, .int .i64 111]) (by simp [results, Tryz.results48, go_sem, r0, r1, r2, r3, r4, r5]) rfl ⟨rfl, (Below.refl w.heap.size w).alloc (Nat.le_refl _) _⟩

/-- What the table says of a number. -/
structure RowE (op : Int) (n : ByteArray) (o t p a b er : Int) : Prop where
  say : (∃ k : Nat, k < 29 ∧ op = (k : Int) ∧ n = nmA k ∧ o = (onA k : Int) ∧ t = (tkA k : Int) ∧ p = (ptA k : Int) ∧ a = (baA k : Int) ∧ b = (bbA k : Int) ∧ er = 0) ∨ ((op < 0 ∨ 29 ≤ op) ∧ n = ⟨#[]⟩ ∧ o = 0 ∧ t = 0 ∧ p = 0 ∧ a = 0 ∧ b = 0 ∧ er = 111)
theorem row_ex (op : Int) : ∃ n o t p a b er, RowE op n o t p a b er := by
  by_cases h : op < 0 ∨ 29 ≤ op
  · exact ⟨_, _, _, _, _, _, _, ⟨.inr ⟨h, rfl, rfl, rfl, rfl, rfl, rfl, rfl⟩⟩⟩
  · exact ⟨_, _, _, _, _, _, _, ⟨.inl ⟨op.toNat, by omega, by omega, rfl, rfl, rfl, rfl, rfl, rfl, rfl⟩⟩⟩
theorem RowE.small {op : Int} {n : ByteArray} {o t p a b er : Int} (h : RowE op n o t p a b er) : (0 ≤ o ∧ o ≤ 2) ∧ (0 ≤ t ∧ t ≤ 3) ∧ (0 ≤ p ∧ p ≤ 1) ∧ (0 ≤ a ∧ a ≤ 262143) ∧ (0 ≤ b ∧ b ≤ 3660) ∧ (er = 0 ∨ er = 111) := by
  rcases h.say with ⟨k, hk, rfl, rfl, rfl, rfl, rfl, rfl, rfl, rfl⟩ | ⟨_, rfl, rfl, rfl, rfl, rfl, rfl, rfl⟩
  · obtain ⟨t1, t2, t3, t4, t5, _⟩ := tab_facts k hk
    omega
  · omega
theorem rowOf_any {op : Int} {n : ByteArray} {o t p a b er : Int} (h : RowE op n o t p a b er) (w : World) (hR : Rws w) :
    Calls Tryz.prog 48 #[.int .i64 op] w fun e w' => e = .returned (.tuple #[rowV n o t p a b, .int .i64 er]) ∧ Below w.heap.size w w' := by
  rcases h.say with ⟨k, hk, rfl, rfl, rfl, rfl, rfl, rfl, rfl, rfl⟩ | ⟨hr, rfl, rfl, rfl, rfl, rfl, rfl, rfl⟩
  · exact rowOf_in k hk w hR
  · exact rowOf_out op w hr
theorem wrap_id {x : Int} (h : -1000000 ≤ x ∧ x ≤ 1000000) : IntKind.i64.wrap x = x := by
  simp [IntKind.wrap, IntKind.bits, IntKind.signed]; omega
theorem operands_any {op : Int} {n : ByteArray} {o t p a b er : Int} (h : RowE op n o t p a b er) (w : World) (hR : Rws w) :
    Calls Tryz.prog 51 #[.int .i64 op] w fun e w' => e = .returned (.tuple #[.int .i64 o, .int .i64 er]) ∧ Below w.heap.size w w' := by
  have K := Lib.hid (rowOf_any h w hR)
  have q1 : IntKind.i64.wrap o = o := wrap_id (by have := h.small; omega)
  clear h hR
  go_enter Tryz.func51, Tryz.ntmps51
  go_wp2_with (go_at_call 48; refine K.out.mono ?_; rintro e w1 ⟨rfl, h1⟩; have B1 := Lib.hid h1; clear h1)
  go_ret2
  exact ⟨rfl, B1.out.alloc B1.out.size _⟩
end Go.Proofs.YtccjeipkljdhdaaGreatDoor

namespace Go.Proofs.YtccjeipkljdhdaaGreatDoor
open Go.RowKit
set_option linter.unusedVariables false
set_option linter.unusedSimpArgs false

/-- A row of the document's table. -/
structure Rf where
  n : ByteArray
  a : Int
  b : Int
  t : Int
  p : Int
  deriving Inhabited
def Rf.cells (r : Rf) : List Value := [.string r.n, .int .i64 r.a, .int .i64 r.b, .int .i64 r.t, .int .i64 r.p]
def rfc (l : List Rf) : List Value := l.flatMap Rf.cells
theorem rfc_len (l : List Rf) : (rfc l).length = l.length * 5 := by
  induction l with
  | nil => rfl
  | cons f l ih => simp [rfc, Rf.cells] at ih ⊢; omega
theorem rfc_app (l m : List Rf) : rfc (l ++ m) = rfc l ++ rfc m := by simp [rfc]
theorem rfc_at (l : List Rf) : ∀ i, i < l.length → ∀ j, j < 5 → (rfc l)[i * 5 + j]? = (l.getD i default).cells[j]? := by
  induction l with
  | nil => intro i hi; simp at hi
  | cons f l ih =>
    intro i hi j hj
    have e : rfc (f :: l) = f.cells ++ rfc l := rfl
    rw [e]
    match i with
    | 0 => rw [Nat.zero_mul, Nat.zero_add, List.getElem?_append_left (by simp [Rf.cells]; omega)]; rfl
    | i + 1 =>
      rw [List.getElem?_append_right (by simp [Rf.cells]; omega)]
      rw [show (i + 1) * 5 + j - f.cells.length = i * 5 + j by simp [Rf.cells]; omega, ih i (by simpa using hi) j hj]
      rfl
theorem infoR : (Tryz.prog.info? 135).map (fun i => (i.zero, i.size, i.bytes)) = some (some (.agg #[.string ⟨#[]⟩, .int .i64 0, .int .i64 0, .int .i64 0, .int .i64 0]), 5, 48) := by kernel_rfl
abbrev OwR (w : World) (B : Nat) (v : Value) (l : List Rf) : Prop := w.ownsRow B 135 5 v l.length (rfc l)
theorem own_litR (w : World) (B : Nat) (hB : B ≤ w.heap.size) (l : List Rf) (hl : l.length ≤ 1000) (C : Array Value) (hC : C = (rfc l).toArray) : OwR (w.alloc (.cells C 135)) B (.slice (some ⟨w.heap.size, 0, none⟩) l.length l.length) l := by
  subst hC
  refine ⟨rfc_len l, .inr ⟨w.heap.size, l.length, (rfc l).toArray, rfl, hB, heap_new w _, Nat.le_refl _, by unfold maxLen; omega, by simp [rfc_len], ?_⟩⟩
  rw [List.take_of_length_le]
  simp [rfc_len]
theorem wp_rowsR {ops : Array Oper} {rest : List Oper} {o : Oper} {a : Act} {Q : Exit → Act → World → Prop} (w : World) (ys : List Rf) (N : Nat) (hN : N = w.heap.size) (hgd : o.guard = none) (s x : Operand)
    (ho : o.op = .call { callee := .builtin .append, args := #[s, x], argTypes := #[132, 132] }) (base : Nat) (v : Value) (ss : List Rf) (hs : a.eval s = v) (m : Nat) (hm : m = ys.length)
    (hx : a.eval x = .slice (some ⟨N, 0, none⟩) m m) (hown : OwR w base v ss) (hl : ss.length ≤ 1000) (hy : ys.length ≤ 1000) (hb : base ≤ w.heap.size) (C : Array Value) (hC : C = (rfc ys).toArray)
    (h : ∀ v' w', OwR w' base v' (ss ++ ys) → Below base w w' → wpList Tryz.prog ops Q rest (a.put o.dst v') w') :
    wpList Tryz.prog ops Q (o :: rest) a (w.alloc (.cells C 135)) := by
  subst hN; subst hm; subst hC
  obtain ⟨i0, hi, hz0, hz1, hz2⟩ := info_parts infoR
  refine wpList_append_own _ hgd s x 132 ho base 135 i0 _ 5 48 Tryz.underlying132 hi hz0 hz1 hz2 rfl (by decide) v _ _ hs (hown.alloc _) ⟨w.heap.size, 0, none⟩ ys.length ys.length (rfc ys) hx (rfc_len ys) ?_ ?_ (by unfold maxLen; omega) (by omega) (by simp; omega) ?_
  · intro j u hj
    have e : ((⟨w.heap.size, 0, none⟩ : Addr).add j) = ⟨w.heap.size, j, none⟩ := by unfold Addr.add; rw [Nat.zero_add]; split <;> simp_all
    rw [e, World.cell?_alloc_at _ _ _ _ rfl]
    simpa using hj
  · intro u hu
    obtain ⟨r, _, hr⟩ := List.mem_flatMap.1 hu
    simp [Rf.cells] at hr
    rcases hr with rfl | rfl | rfl | rfl | rfl <;> rfl
  · intro v' w' h1 h2 _
    refine h v' w' ?_ ?_
    · unfold OwR
      rw [List.length_append, rfc_app]
      exact h1
    · exact ((Below.refl _ w).alloc hb _).grown h2 (by simp; omega) (fun k e => by
        rcases hown.2 with ⟨rfl, _⟩ | ⟨g, c, cur, rfl, hB, _⟩
        · simp [Value.ownBlock] at e
        · simp [Value.ownBlock] at e; omega)
def rp0 : List Rf := [⟨⟨#[101, 110, 100]⟩, (-1), (-1), 0, 0⟩, ⟨⟨#[99, 111, 110, 115, 116]⟩, 16383, (-1), 0, 1⟩, ⟨⟨#[98, 111, 111, 108]⟩, 1, (-1), 0, 1⟩, ⟨⟨#[111, 98, 115]⟩, 63, 3660, 0, 1⟩]
def rp1 : List Rf := [⟨⟨#[108, 111, 97, 100]⟩, 32767, (-1), 0, 1⟩, ⟨⟨#[115, 116, 111, 114, 101]⟩, 32767, (-1), 1, 0⟩]
def rp2 : List Rf := [⟨⟨#[107, 101, 101, 112]⟩, 16383, (-1), 1, 1⟩, ⟨⟨#[103, 101, 116]⟩, 16383, (-1), 0, 1⟩, ⟨⟨#[100, 114, 111, 112]⟩, (-1), (-1), 1, 0⟩]
def rp3 : List Rf := [⟨⟨#[97, 100, 100]⟩, (-1), (-1), 2, 1⟩, ⟨⟨#[115, 117, 98]⟩, (-1), (-1), 2, 1⟩, ⟨⟨#[109, 117, 108]⟩, (-1), (-1), 2, 1⟩, ⟨⟨#[110, 101, 103]⟩, (-1), (-1), 1, 1⟩]
def rp4 : List Rf := [⟨⟨#[100, 105, 118]⟩, (-1), (-1), 2, 1⟩, ⟨⟨#[109, 111, 100]⟩, (-1), (-1), 2, 1⟩, ⟨⟨#[97, 98, 115]⟩, (-1), (-1), 1, 1⟩, ⟨⟨#[109, 105, 110]⟩, (-1), (-1), 2, 1⟩, ⟨⟨#[109, 97, 120]⟩, (-1), (-1), 2, 1⟩]
def rp5 : List Rf := [⟨⟨#[114, 97, 116, 105, 111]⟩, 4, (-1), 3, 1⟩]
def rp6 : List Rf := [⟨⟨#[108, 116]⟩, (-1), (-1), 2, 1⟩, ⟨⟨#[108, 101]⟩, (-1), (-1), 2, 1⟩, ⟨⟨#[103, 116]⟩, (-1), (-1), 2, 1⟩, ⟨⟨#[103, 101]⟩, (-1), (-1), 2, 1⟩, ⟨⟨#[101, 113]⟩, (-1), (-1), 2, 1⟩, ⟨⟨#[110, 101]⟩, (-1), (-1), 2, 1⟩]
def rp7 : List Rf := [⟨⟨#[110, 111, 116]⟩, (-1), (-1), 1, 1⟩, ⟨⟨#[106, 117, 109, 112]⟩, 262143, (-1), 0, 0⟩, ⟨⟨#[122, 101, 114, 111]⟩, 262143, (-1), 1, 0⟩, ⟨⟨#[102, 108, 111, 119]⟩, 4095, (-1), 1, 0⟩]
/-- The k-th row. -/
def rfs (k : Nat) : Rf := ⟨nmA k, if 1 ≤ onA k then (baA k : Int) else -1, if 2 ≤ onA k then (bbA k : Int) else -1, (tkA k : Int), (ptA k : Int)⟩
def rtab : List Rf := rp0 ++ rp1 ++ rp2 ++ rp3 ++ rp4 ++ rp5 ++ rp6 ++ rp7
theorem rtab_at : ∀ k, k < 29 → rtab.getD k default = rfs k
  | 0, _ => rfl
  | 1, _ => rfl
  | 2, _ => rfl
  | 3, _ => rfl
  | 4, _ => rfl
  | 5, _ => rfl
  | 6, _ => rfl
  | 7, _ => rfl
  | 8, _ => rfl
  | 9, _ => rfl
  | 10, _ => rfl
  | 11, _ => rfl
  | 12, _ => rfl
  | 13, _ => rfl
  | 14, _ => rfl
  | 15, _ => rfl
  | 16, _ => rfl
  | 17, _ => rfl
  | 18, _ => rfl
  | 19, _ => rfl
  | 20, _ => rfl
  | 21, _ => rfl
  | 22, _ => rfl
  | 23, _ => rfl
  | 24, _ => rfl
  | 25, _ => rfl
  | 26, _ => rfl
  | 27, _ => rfl
  | 28, _ => rfl
  | n + 29, h => absurd h (by omega)
/-- The table that came, where the world holds it. -/
def RTb (w : World) (g : Nat) : Prop := g < w.heap.size ∧ ∀ k, k < 29 → w.cell? ⟨g, k * 5, none⟩ = some (.string (nmA k)) ∧ w.cell? ⟨g, k * 5 + 1, none⟩ = some (.int .i64 (rfs k).a) ∧ w.cell? ⟨g, k * 5 + 2, none⟩ = some (.int .i64 (rfs k).b) ∧ w.cell? ⟨g, k * 5 + 3, none⟩ = some (.int .i64 (tkA k : Int)) ∧ w.cell? ⟨g, k * 5 + 4, none⟩ = some (.int .i64 (ptA k : Int))
theorem rtb_of {w : World} {B : Nat} {v : Value} (h : OwR w B v rtab) : ∃ g cap, v = .slice (some ⟨g, 0, none⟩) 29 cap ∧ RTb w g := by
  obtain ⟨h1, h2⟩ := h
  have hl : rtab.length = 29 := rfl
  rw [hl] at h2
  rcases h2 with ⟨rfl, h2⟩ | ⟨g, cap, cur, rfl, hB, hg, hn, hm, hs, ht⟩
  · omega
  · refine ⟨g, cap, rfl, (Array.getElem?_eq_some_iff.1 hg).1, fun k hk => ?_⟩
    have key : ∀ j, j < 5 → w.cell? ⟨g, k * 5 + j, none⟩ = (rfs k).cells[j]? := fun j hj => by
      have e : w.cell? ⟨g, k * 5 + j, none⟩ = cur[k * 5 + j]? := by simp [World.cell?, hg]
      rw [e, ← rtab_at k hk, ← rfc_at rtab k hk j hj, ← ht, List.getElem?_take_of_lt (by omega)]
      simp
    exact ⟨key 0 (by omega), key 1 (by omega), key 2 (by omega), key 3 (by omega), key 4 (by omega)⟩
def TbE (w : World) (e : Ending) (w' : World) : Prop := ∃ g cap, e = .returned (.slice (some ⟨g, 0, none⟩) 29 cap) ∧ RTb w' g ∧ Below w.heap.size w w'
set_option maxRecDepth 100000 in
set_option maxHeartbeats 4000000 in
theorem table_any (w : World) : Calls Tryz.prog 89 #[] w fun e w' => TbE w e w' := by
  obtain ⟨w1, hw1⟩ : ∃ w1, w.alloc (.cells #[.string ⟨#[101, 110, 100]⟩, .int .i64 (-1), .int .i64 (-1), .int .i64 0, .int .i64 0, .string ⟨#[99, 111, 110, 115, 116]⟩, .int .i64 16383, .int .i64 (-1), .int .i64 0, .int .i64 1, .string ⟨#[98, 111, 111, 108]⟩, .int .i64 1, .int .i64 (-1), .int .i64 0, .int .i64 1, .string ⟨#[111, 98, 115]⟩, .int .i64 63, .int .i64 3660, .int .i64 0, .int .i64 1] 135) = w1 := ⟨_, rfl⟩
  have O1 := Lib.hid (p := OwR w1 w.heap.size (.slice (some ⟨w.heap.size, 0, none⟩) 4 4) rp0) (by rw [← hw1]; exact own_litR w w.heap.size (Nat.le_refl _) rp0 (by decide) _ rfl)
  have B1 := Lib.hid (p := Below w.heap.size w w1) (by rw [← hw1]; exact (Below.refl _ _).alloc (Nat.le_refl _) _)
  have C2 := Lib.hid (p := (#[.string ⟨#[108, 111, 97, 100]⟩, .int .i64 32767, .int .i64 (-1), .int .i64 0, .int .i64 1, .string ⟨#[115, 116, 111, 114, 101]⟩, .int .i64 32767, .int .i64 (-1), .int .i64 1, .int .i64 0] : Array Value) = (rfc rp1).toArray) rfl
  have C3 := Lib.hid (p := (#[.string ⟨#[107, 101, 101, 112]⟩, .int .i64 16383, .int .i64 (-1), .int .i64 1, .int .i64 1, .string ⟨#[103, 101, 116]⟩, .int .i64 16383, .int .i64 (-1), .int .i64 0, .int .i64 1, .string ⟨#[100, 114, 111, 112]⟩, .int .i64 (-1), .int .i64 (-1), .int .i64 1, .int .i64 0] : Array Value) = (rfc rp2).toArray) rfl
  have C4 := Lib.hid (p := (#[.string ⟨#[97, 100, 100]⟩, .int .i64 (-1), .int .i64 (-1), .int .i64 2, .int .i64 1, .string ⟨#[115, 117, 98]⟩, .int .i64 (-1), .int .i64 (-1), .int .i64 2, .int .i64 1, .string ⟨#[109, 117, 108]⟩, .int .i64 (-1), .int .i64 (-1), .int .i64 2, .int .i64 1, .string ⟨#[110, 101, 103]⟩, .int .i64 (-1), .int .i64 (-1), .int .i64 1, .int .i64 1] : Array Value) = (rfc rp3).toArray) rfl
  have C5 := Lib.hid (p := (#[.string ⟨#[100, 105, 118]⟩, .int .i64 (-1), .int .i64 (-1), .int .i64 2, .int .i64 1, .string ⟨#[109, 111, 100]⟩, .int .i64 (-1), .int .i64 (-1), .int .i64 2, .int .i64 1, .string ⟨#[97, 98, 115]⟩, .int .i64 (-1), .int .i64 (-1), .int .i64 1, .int .i64 1, .string ⟨#[109, 105, 110]⟩, .int .i64 (-1), .int .i64 (-1), .int .i64 2, .int .i64 1, .string ⟨#[109, 97, 120]⟩, .int .i64 (-1), .int .i64 (-1), .int .i64 2, .int .i64 1] : Array Value) = (rfc rp4).toArray) rfl
  have C6 := Lib.hid (p := (#[.string ⟨#[114, 97, 116, 105, 111]⟩, .int .i64 4, .int .i64 (-1), .int .i64 3, .int .i64 1] : Array Value) = (rfc rp5).toArray) rfl
  have C7 := Lib.hid (p := (#[.string ⟨#[108, 116]⟩, .int .i64 (-1), .int .i64 (-1), .int .i64 2, .int .i64 1, .string ⟨#[108, 101]⟩, .int .i64 (-1), .int .i64 (-1), .int .i64 2, .int .i64 1, .string ⟨#[103, 116]⟩, .int .i64 (-1), .int .i64 (-1), .int .i64 2, .int .i64 1, .string ⟨#[103, 101]⟩, .int .i64 (-1), .int .i64 (-1), .int .i64 2, .int .i64 1, .string ⟨#[101, 113]⟩, .int .i64 (-1), .int .i64 (-1), .int .i64 2, .int .i64 1, .string ⟨#[110, 101]⟩, .int .i64 (-1), .int .i64 (-1), .int .i64 2, .int .i64 1] : Array Value) = (rfc rp6).toArray) rfl
  have C8 := Lib.hid (p := (#[.string ⟨#[110, 111, 116]⟩, .int .i64 (-1), .int .i64 (-1), .int .i64 1, .int .i64 1, .string ⟨#[106, 117, 109, 112]⟩, .int .i64 262143, .int .i64 (-1), .int .i64 0, .int .i64 0, .string ⟨#[122, 101, 114, 111]⟩, .int .i64 262143, .int .i64 (-1), .int .i64 1, .int .i64 0, .string ⟨#[102, 108, 111, 119]⟩, .int .i64 4095, .int .i64 (-1), .int .i64 1, .int .i64 0] : Array Value) = (rfc rp7).toArray) rfl
  have P1 : True := trivial
  have P2 : True := trivial
  have P3 : True := trivial
  have P4 : True := trivial
  have P5 : True := trivial
  have P6 : True := trivial
  have P7 : True := trivial
  go_enter Tryz.func89, Tryz.ntmps89
  go_wp2_with (first
    | (at_builtin; have qq := P1; refine wp_rowsR _ rp1 _ rfl rfl _ _ rfl w.heap.size _ rp0 rfl 2 rfl rfl O1.out (by decide) (by decide) B1.out.size _ C2.out ?_; intro v2 w2 o2 b2; have O2 := Lib.hid o2; have B2 := Lib.hid (B1.out.trans b2); clear o2 b2 P1)
    | (at_builtin; have qq := P2; refine wp_rowsR _ rp2 _ rfl rfl _ _ rfl w.heap.size _ (rp0 ++ rp1) rfl 3 rfl rfl O2.out (by decide) (by decide) B2.out.size _ C3.out ?_; intro v3 w3 o3 b3; have O3 := Lib.hid o3; have B3 := Lib.hid (B2.out.trans b3); clear o3 b3 P2)
    | (at_builtin; have qq := P3; refine wp_rowsR _ rp3 _ rfl rfl _ _ rfl w.heap.size _ (rp0 ++ rp1 ++ rp2) rfl 4 rfl rfl O3.out (by decide) (by decide) B3.out.size _ C4.out ?_; intro v4 w4 o4 b4; have O4 := Lib.hid o4; have B4 := Lib.hid (B3.out.trans b4); clear o4 b4 P3)
    | (at_builtin; have qq := P4; refine wp_rowsR _ rp4 _ rfl rfl _ _ rfl w.heap.size _ (rp0 ++ rp1 ++ rp2 ++ rp3) rfl 5 rfl rfl O4.out (by decide) (by decide) B4.out.size _ C5.out ?_; intro v5 w5 o5 b5; have O5 := Lib.hid o5; have B5 := Lib.hid (B4.out.trans b5); clear o5 b5 P4)
    | (at_builtin; have qq := P5; refine wp_rowsR _ rp5 _ rfl rfl _ _ rfl w.heap.size _ (rp0 ++ rp1 ++ rp2 ++ rp3 ++ rp4) rfl 1 rfl rfl O5.out (by decide) (by decide) B5.out.size _ C6.out ?_; intro v6 w6 o6 b6; have O6 := Lib.hid o6; have B6 := Lib.hid (B5.out.trans b6); clear o6 b6 P5)
    | (at_builtin; have qq := P6; refine wp_rowsR _ rp6 _ rfl rfl _ _ rfl w.heap.size _ (rp0 ++ rp1 ++ rp2 ++ rp3 ++ rp4 ++ rp5) rfl 6 rfl rfl O6.out (by decide) (by decide) B6.out.size _ C7.out ?_; intro v7 w7 o7 b7; have O7 := Lib.hid o7; have B7 := Lib.hid (B6.out.trans b7); clear o7 b7 P6)
    | (at_builtin; have qq := P7; refine wp_rowsR _ rp7 _ rfl rfl _ _ rfl w.heap.size _ (rp0 ++ rp1 ++ rp2 ++ rp3 ++ rp4 ++ rp5 ++ rp6) rfl 4 rfl rfl O7.out (by decide) (by decide) B7.out.size _ C8.out ?_; intro v8 w8 o8 b8; have O8 := Lib.hid o8; have B8 := Lib.hid (B7.out.trans b8); clear o8 b8 P7))
  obtain ⟨g, cap, hv, hg⟩ := rtb_of O8.out
  subst hv
  go_ret
  exact (show TbE _ _ _ from ⟨g, cap, rfl, hg, B8.out⟩)
end Go.Proofs.YtccjeipkljdhdaaGreatDoor

namespace Go.Proofs.YtccjeipkljdhdaaGreatDoor
open Go.RowKit
set_option linter.unusedVariables false
set_option linter.unusedSimpArgs false

theorem box_all5 {w : World} {x : Nat} {a b c d e : Value} {t : TypeId} (h : w.heap[x]? = some (.cells #[a, b, c, d, e] t)) : w.cell? ⟨x, 0, none⟩ = some a ∧ w.cell? ⟨x, 1, none⟩ = some b ∧ w.cell? ⟨x, 2, none⟩ = some c ∧ w.cell? ⟨x, 3, none⟩ = some d ∧ w.cell? ⟨x, 4, none⟩ = some e := by
  refine ⟨?_, ?_, ?_, ?_, ?_⟩ <;> simp [World.cell?, h]
theorem box_set5 {w : World} {x : Nat} {a b c d e a' b' c' d' e' : Value} {t : TypeId} (h : w.heap[x]? = some (.cells #[a, b, c, d, e] t)) : (((((w.setCell ⟨x, 0, none⟩ a').setCell ⟨x, 1, none⟩ b').setCell ⟨x, 2, none⟩ c').setCell ⟨x, 3, none⟩ d').setCell ⟨x, 4, none⟩ e').heap[x]? = some (.cells #[a', b', c', d', e'] t) := by
  have h0 : (w.setCell ⟨x, 0, none⟩ a').heap[x]? = some (.cells #[a', b, c, d, e] t) := Joins.block_setCell (i := 0) h a'
  generalize w.setCell ⟨x, 0, none⟩ a' = w at h0 ⊢
  have h1 : (w.setCell ⟨x, 1, none⟩ b').heap[x]? = some (.cells #[a', b', c, d, e] t) := Joins.block_setCell (i := 1) h0 b'
  generalize w.setCell ⟨x, 1, none⟩ b' = w at h1 ⊢
  have h2 : (w.setCell ⟨x, 2, none⟩ c').heap[x]? = some (.cells #[a', b', c', d, e] t) := Joins.block_setCell (i := 2) h1 c'
  generalize w.setCell ⟨x, 2, none⟩ c' = w at h2 ⊢
  have h3 : (w.setCell ⟨x, 3, none⟩ d').heap[x]? = some (.cells #[a', b', c', d', e] t) := Joins.block_setCell (i := 3) h2 d'
  generalize w.setCell ⟨x, 3, none⟩ d' = w at h3 ⊢
  exact Joins.block_setCell (i := 4) h3 e'
theorem below5 {B : Nat} {w0 w : World} {g : Nat} (h : Below B w0 w) (hg : B ≤ g) (a0 a1 a2 a3 a4 : Value) :
    Below B w0 (((((w.setCell ⟨g, 0, none⟩ a0).setCell ⟨g, 1, none⟩ a1).setCell ⟨g, 2, none⟩ a2).setCell ⟨g, 3, none⟩ a3).setCell ⟨g, 4, none⟩ a4) :=
  (((((h.setCell (p := ⟨g, 0, none⟩) hg _).setCell (p := ⟨g, 1, none⟩) hg _).setCell (p := ⟨g, 2, none⟩) hg _).setCell (p := ⟨g, 3, none⟩) hg _).setCell (p := ⟨g, 4, none⟩) hg _)
theorem frz5 {w : World} {x : Nat} {a b c d e : Value} {t : TypeId} (h : w.heap[x]? = some (.cells #[a, b, c, d, e] t)) : w.frozen? ⟨x, 0, none⟩ = false ∧ w.frozen? ⟨x, 1, none⟩ = false ∧ w.frozen? ⟨x, 2, none⟩ = false ∧ w.frozen? ⟨x, 3, none⟩ = false ∧ w.frozen? ⟨x, 4, none⟩ = false := by
  refine ⟨?_, ?_, ?_, ?_, ?_⟩ <;> simp [World.frozen?, h]
abbrev refV (n : ByteArray) (a b t p : Int) : Value := .agg #[.string n, .int .i64 a, .int .i64 b, .int .i64 t, .int .i64 p]
/-- What the document's table says of a number. -/
structure RefE (op : Int) (n : ByteArray) (a b t p er : Int) : Prop where
  say : (∃ k : Nat, k < 29 ∧ op = (k : Int) ∧ n = nmA k ∧ a = (rfs k).a ∧ b = (rfs k).b ∧ t = (tkA k : Int) ∧ p = (ptA k : Int) ∧ er = 0) ∨ ((op < 0 ∨ 29 ≤ op) ∧ n = ⟨#[]⟩ ∧ a = 0 ∧ b = 0 ∧ t = 0 ∧ p = 0 ∧ er = 111)
theorem ref_ex (op : Int) : ∃ n a b t p er, RefE op n a b t p er := by
  by_cases h : op < 0 ∨ 29 ≤ op
  · exact ⟨_, _, _, _, _, _, ⟨.inr ⟨h, rfl, rfl, rfl, rfl, rfl, rfl⟩⟩⟩
  · exact ⟨_, _, _, _, _, _, ⟨.inl ⟨op.toNat, by omega, by omega, rfl, rfl, rfl, rfl, rfl, rfl⟩⟩⟩
def zr5 : Obj := .cells #[.string ⟨#[]⟩, .int .i64 0, .int .i64 0, .int .i64 0, .int .i64 0] 135
set_option maxRecDepth 100000 in
set_option maxHeartbeats 2000000 in
theorem refRow_any {op : Int} {n : ByteArray} {a b t p er : Int} (h : RefE op n a b t p er) (w : World) :
    Calls Tryz.prog 90 #[.int .i64 op] w fun e w' => e = .returned (.tuple #[refV n a b t p, .int .i64 er]) ∧ Below w.heap.size w w' := by
  have A := Lib.hid ((Below.refl w.heap.size w).alloc (Nat.le_refl _) zr5)
  have KT := Lib.hid (table_any (w.alloc zr5))
  have HB := Lib.hid (p := ∀ w1, Below (w.alloc zr5).heap.size (w.alloc zr5) w1 → w1.heap[w.heap.size]? = some zr5) (fun w1 b => (b.block _ (by simp)).trans (heap_new w zr5))
  unfold zr5 at *
  rcases h.say with ⟨k, hk, rfl, rfl, rfl, rfl, rfl, rfl, rfl⟩ | ⟨hr, rfl, rfl, rfl, rfl, rfl, rfl⟩
  · have k0 : ¬ (k : Int) < 0 := by omega
    have k1 : decide (29 ≤ k) = false := by simp; omega
    have k2 : decide ((29 : Int) ≤ (k : Int)) = false := by simp; omega
    have RX := Lib.hid (p := ∀ w1 g, RTb w1 g → w1.cell? ⟨g, k * 5, none⟩ = some (.string (nmA k)) ∧ w1.cell? ⟨g, k * 5 + 1, none⟩ = some (.int .i64 (rfs k).a) ∧ w1.cell? ⟨g, k * 5 + 2, none⟩ = some (.int .i64 (rfs k).b) ∧ w1.cell? ⟨g, k * 5 + 3, none⟩ = some (.int .i64 (tkA k : Int)) ∧ w1.cell? ⟨g, k * 5 + 4, none⟩ = some (.int .i64 (ptA k : Int))) (fun w1 g q => q.2 k hk)
    clear h
    generalize nmA k = n at *
    generalize (rfs k).a = a at *
    generalize (rfs k).b = b at *
    generalize ((tkA k : Nat) : Int) = t at *
    generalize ((ptA k : Nat) : Int) = p at *
    go_enter Tryz.func90, Tryz.ntmps90
    go_wp2_with (go_at_call 89; refine KT.out.mono ?_; rintro e w1 ⟨g, cap, rfl, hT, h1⟩; obtain ⟨c0, c1, c2, c3, c4⟩ := RX.out w1 g hT; have hb := HB.out w1 h1; obtain ⟨z0, z1, z2, z3, z4⟩ := box_all5 hb; obtain ⟨f0, f1, f2, f3, f4⟩ := frz5 hb; have E1 := Lib.hid (box_all5 (box_set5 (a' := .string n) (b' := .int .i64 a) (c' := .int .i64 b) (d' := .int .i64 t) (e' := .int .i64 p) hb)); have B1 := Lib.hid (A.out.trans (h1.mono A.out.size)); clear h1 hT hb)
    obtain ⟨r0, r1, r2, r3, r4⟩ := E1.out
    exact bodyPost_ret (v := .tuple #[refV n a b t p, .int .i64 0]) (by simp [results, Tryz.results90, go_sem, r0, r1, r2, r3, r4]) rfl ⟨rfl, below5 B1.out (Nat.le_refl _) _ _ _ _ _⟩
  · by_cases k0 : op < 0
    · clear h hr
      go_enter Tryz.func90, Tryz.ntmps90
      go_wp2_with (go_at_call 89; refine KT.out.mono ?_; rintro e w1 ⟨g, cap, rfl, hT, h1⟩; have hb := HB.out w1 h1; obtain ⟨z0, z1, z2, z3, z4⟩ := box_all5 hb; obtain ⟨f0, f1, f2, f3, f4⟩ := frz5 hb; have E1 := Lib.hid (box_all5 (box_set5 (a' := .string ⟨#[]⟩) (b' := .int .i64 0) (c' := .int .i64 0) (d' := .int .i64 0) (e' := .int .i64 0) hb)); have B1 := Lib.hid (A.out.trans (h1.mono A.out.size)); clear h1 hT hb)
      obtain ⟨r0, r1, r2, r3, r4⟩ := E1.out
      exact bodyPost_ret (v := .tuple #[refV ⟨#[]⟩ 0 0 0 0, .int .i64 111]) (by simp [results, Tryz.results90, go_sem, r0, r1, r2, r3, r4]) rfl ⟨rfl, below5 B1.out (Nat.le_refl _) _ _ _ _ _⟩
    · have k1 : (29 : Int) ≤ op := by omega
      clear h hr
      go_enter Tryz.func90, Tryz.ntmps90
      go_wp2_with (go_at_call 89; refine KT.out.mono ?_; rintro e w1 ⟨g, cap, rfl, hT, h1⟩; have hb := HB.out w1 h1; obtain ⟨z0, z1, z2, z3, z4⟩ := box_all5 hb; obtain ⟨f0, f1, f2, f3, f4⟩ := frz5 hb; have E1 := Lib.hid (box_all5 (box_set5 (a' := .string ⟨#[]⟩) (b' := .int .i64 0) (c' := .int .i64 0) (d' := .int .i64 0) (e' := .int .i64 0) hb)); have B1 := Lib.hid (A.out.trans (h1.mono A.out.size)); clear h1 hT hb)
      obtain ⟨r0, r1, r2, r3, r4⟩ := E1.out
      exact bodyPost_ret (v := .tuple #[refV ⟨#[]⟩ 0 0 0 0, .int .i64 111]) (by simp [results, Tryz.results90, go_sem, r0, r1, r2, r3, r4]) rfl ⟨rfl, below5 B1.out (Nat.le_refl _) _ _ _ _ _⟩
/-- How many operands: those whose bound is none below 0. -/
def opsR (a b er : Int) : Int := if er ≠ 0 then 0 else (if 0 ≤ a then 1 else 0) + (if 0 ≤ b then 1 else 0)
theorem refOperands_any {op : Int} {n : ByteArray} {a b t p er : Int} (h : RefE op n a b t p er) (w : World) :
    Calls Tryz.prog 57 #[.int .i64 op] w fun e w' => e = .returned (.tuple #[.int .i64 (opsR a b er), .int .i64 er]) ∧ Below w.heap.size w w' := by
  have K := Lib.hid (refRow_any h w)
  have E : er = 0 ∨ er = 111 := by
    rcases h.say with ⟨k, _, _, _, _, _, _, _, h⟩ | ⟨_, _, _, _, _, _, h⟩
    · exact .inl h
    · exact .inr h
  clear h
  rcases E with rfl | rfl
  · by_cases ha : 0 ≤ a <;> by_cases hb : 0 ≤ b
    all_goals
      have R := Lib.hid (p := opsR a b 0 = (if 0 ≤ a then 1 else 0) + (if 0 ≤ b then 1 else 0)) (by unfold opsR; rw [if_neg (by simp)])
      simp only [ha, hb, if_true, if_false] at R
      first | (have ha' : a < 0 := by omega) | skip
      first | (have hb' : b < 0 := by omega) | skip
      go_enter Tryz.func57, Tryz.ntmps57
      go_wp2_with (go_at_call 90; refine K.out.mono ?_; rintro e w1 ⟨rfl, h1⟩; have B1 := Lib.hid h1; clear h1)
      go_ret2
      exact ⟨by rw [R.out]; rfl, B1.out.alloc B1.out.size _⟩
  · go_enter Tryz.func57, Tryz.ntmps57
    go_wp2_with (go_at_call 90; refine K.out.mono ?_; rintro e w1 ⟨rfl, h1⟩; have B1 := Lib.hid h1; clear h1)
    go_ret2
    exact ⟨rfl, B1.out.alloc B1.out.size _⟩
def wi (v b : Int) : Bool := decide (if b < 0 then v = 0 else 0 ≤ v ∧ v ≤ b)
theorem within_any (v b : Int) (w : World) : Calls Tryz.prog 91 #[.int .i64 v, .int .i64 b] w fun e w' => e = .returned (.bool (wi v b)) ∧ w' = w := by
  by_cases hb : b < 0
  · have R := Lib.hid (p := wi v b = (v == 0)) (by unfold wi; simp only [hb, if_true]; rw [Bool.eq_iff_iff]; simp)
    rw [R.out]
    clear R
    go_enter Tryz.func91, Tryz.ntmps91
    go_wp2
    go_ret
    exact ⟨rfl, rfl⟩
  · by_cases h0 : 0 ≤ v <;> by_cases h1 : v ≤ b
    all_goals
      have R := Lib.hid (p := wi v b = decide (0 ≤ v ∧ v ≤ b)) (by unfold wi; simp only [hb, if_false])
      simp only [h0, h1, and_self, and_true, and_false, true_and, false_and, decide_true, decide_false] at R
      rw [R.out]
      clear R
      first | (have h0' : decide (0 ≤ v) = false := by simp; omega) | skip
      first | (have h1' : decide (v ≤ b) = false := by simp; omega) | skip
      go_enter Tryz.func91, Tryz.ntmps91
      go_wp2
      go_ret
      exact ⟨rfl, rfl⟩
end Go.Proofs.YtccjeipkljdhdaaGreatDoor
