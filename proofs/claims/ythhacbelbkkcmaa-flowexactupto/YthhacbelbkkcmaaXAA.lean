import Derived.ProofKit
import Derived.OpenShut
import Derived.Deep.Slices
import Derived.Test.YthhacbelbkkcmaaRows
import Derived.WalkKit
import Derived.WalkSpells
import Derived.Below
import Derived.BigCall
import Derived.BigGuard
import Derived.BigQuiet
import Derived.Deep.QuietTactic
import Derived.Lib.Hide
import Derived.Deep.RegionHeld3
import Derived.Laws.AppendOwn
import Derived.Laws.AppendOwnNone
import Derived.Laws.OwnMore
import Derived.Maps.AppendAt
namespace Go.Proofs.Ythhacbelbkkcmaa
open Go.ChangeShapes Go.WideShapes Go.ChangeAt Go.RowKit Go.Deep

structure Fl where
  d : Int
  c : ByteArray
  a : Int
  deriving Inhabited

def Fl.wf (f : Fl) : Prop := (Lit.int .i64 f.d).wf = true ∧ f.c.size ≤ maxLen ∧ (Lit.int .i64 f.a).wf = true
def Fl.cells (f : Fl) : List Value := [.int .i64 f.d, .string f.c, .int .i64 f.a]
theorem add_add (a : Addr) (m n : Nat) : (a.add m).add n = a.add (m + n) := by
  unfold Addr.add
  by_cases h1 : m = 0
  · subst h1; simp
  · by_cases h2 : n = 0
    · subst h2; simp
    · simp [h1, h2, Nat.add_assoc]

theorem trod_flow {H : Type} {enc : TypeId × Value → H} {P : Program} {W : World} {base : Nat} {sp : Nat → Bool} {held : Bool} {t e s : TypeId} {fs : Array Field} {fuel : Nat} {cs : List Value} {x : DataW H × List MemPlace}
    (ht : P.underlying t = some (.struct fs)) (hfs : fs.toList.map (fun f => (f.type, f.offset)) = [(e, 0), (s, 1), (e, 2)]) (he : P.underlying e = some (.int .i64)) (hs : P.underlying s = some .string) (hc : P.cellsOf e = 1) (hcs : P.cellsOf s = 1) (hct : P.cellsOf t = 3)
    (h : DataW.trod enc P W base sp held fuel t cs = some x) : ∃ f : Fl, cs = f.cells ∧ f.wf := by
  obtain ⟨xs, n, _, _, hl, hlen, hfld⟩ := DataW.trod_struct ht h
  rw [hct] at hl
  obtain ⟨c0, c1, c2, rfl⟩ : ∃ a b c, cs = [a, b, c] := by
    match cs, hl with
    | [a, b, c], _ => exact ⟨a, b, c, rfl⟩
  have h3 : fs.size = 3 := by have := congrArg List.length hfs; simpa using this
  have fat : ∀ i (hi : i < 3), ∃ f, fs[i]? = some f ∧ (f.type, f.offset) = [(e, 0), (s, 1), (e, 2)][i] := fun i hi => by
    refine ⟨fs[i]'(by omega), by simp [show i < fs.size by omega], ?_⟩
    have : (fs.toList.map (fun f => (f.type, f.offset)))[i]? = [(e, 0), (s, 1), (e, 2)][i]? := by rw [hfs]
    simpa [show i < fs.size by omega, hi] using this
  have ex : ∀ i, i < 3 → ∃ y, xs[i]? = some y := fun i hi => ⟨xs[i]'(by omega), by simp [show i < xs.length by omega]⟩
  obtain ⟨f0, g0, e0⟩ := fat 0 (by omega)
  obtain ⟨f1, g1, e1⟩ := fat 1 (by omega)
  obtain ⟨f2, g2, e2⟩ := fat 2 (by omega)
  obtain ⟨y0, q0⟩ := ex 0 (by omega)
  obtain ⟨y1, q1⟩ := ex 1 (by omega)
  obtain ⟨y2, q2⟩ := ex 2 (by omega)
  have k0 := hfld 0 f0 g0
  have k1 := hfld 1 f1 g1
  have k2 := hfld 2 f2 g2
  simp at e0 e1 e2
  rw [q0, e0.1, e0.2, hc] at k0
  rw [q1, e1.1, e1.2, hcs] at k1
  rw [q2, e2.1, e2.2, hc] at k2
  obtain ⟨z0, r0, _, w0⟩ := DataW.trod_int he k0
  obtain ⟨z1, r1, _, w1⟩ := DataW.trod_string hs k1
  obtain ⟨z2, r2, _, w2⟩ := DataW.trod_int he k2
  simp at r0 r1 r2
  subst r0 r1 r2
  exact ⟨⟨z0, z1, z2⟩, rfl, w0, w1, w2⟩

/-- A row of flows, its spare room with it. -/
def IsFls (w : World) (a : Option Addr) (len cap : Nat) (fs : List Fl) : Prop :=
  (a = none ∧ len = 0 ∧ cap = 0 ∧ fs = []) ∨
  ∃ x, a = some x ∧ len ≤ cap ∧ cap ≤ maxLen ∧ fs.length = len ∧ (∀ f ∈ fs, f.wf) ∧ ∀ i, i < len → w.cell? (x.add (i * 3)) = some (.int .i64 (fs.getD i default).d) ∧ w.cell? (x.add (i * 3 + 1)) = some (.string (fs.getD i default).c) ∧ w.cell? (x.add (i * 3 + 2)) = some (.int .i64 (fs.getD i default).a)

theorem open_flows {H : Type} {enc : TypeId × Value → H} {P : Program} {W : World} {base : Nat} {sp : Nat → Bool} {held : Bool} {T t e s : TypeId} {fs : Array Field} {fuel : Nat} {a : Option Addr} {len cap : Nat} {x : DataW H × List MemPlace}
    (hT : P.underlying T = some (.slice t)) (ht : P.underlying t = some (.struct fs)) (hfs : fs.toList.map (fun f => (f.type, f.offset)) = [(e, 0), (s, 1), (e, 2)]) (he : P.underlying e = some (.int .i64)) (hs : P.underlying s = some .string) (hc : P.cellsOf e = 1) (hcs : P.cellsOf s = 1) (hct : P.cellsOf t = 3)
    (h : DataW.trod enc P W base sp held fuel T [.slice a len cap] = some x) : ∃ fl, IsFls W a len cap fl ∧ (len = 0 ∨ ∃ l r, x.1 = .slice l r ∧ l.length = len) := by
  rcases open_slice hT h with ⟨h0, _⟩ | ⟨y, l, c, m, n, D, Pl, h0, hb, hl, hm, hmm, xe, hx⟩
  · simp at h0
    exact ⟨[], .inl ⟨h0.1, h0.2.1, h0.2.2, rfl⟩, .inl h0.2.1⟩
  · simp at h0
    obtain ⟨rfl, rfl, rfl⟩ := h0
    have hlm : len ≤ m := by rw [hmm]; split <;> omega
    obtain ⟨F, hF⟩ := choose_lt (α := Fl) (n := len) (p := fun i f => f.wf ∧ W.cell? (y.add (i * 3)) = some (.int .i64 f.d) ∧ W.cell? (y.add (i * 3 + 1)) = some (.string f.c) ∧ W.cell? (y.add (i * 3 + 2)) = some (.int .i64 f.a)) (fun i hi => by
      obtain ⟨cs', h1, h2⟩ := hx i (by omega)
      rw [hct] at h1
      obtain ⟨_, _, h3⟩ := World.cells?_some h1
      obtain ⟨f, rfl, w⟩ := trod_flow ht hfs he hs hc hcs hct h2
      have a0 := h3 0 (by omega)
      have a1 := h3 1 (by omega)
      have a2 := h3 2 (by omega)
      rw [add_add] at a0 a1 a2
      exact ⟨f, w, a0, a1, a2⟩)
    have g : ∀ i, i < len → ((List.range len).map F).getD i default = F i := fun i hi => by simp [hi]
    refine ⟨(List.range len).map F, .inr ⟨y, rfl, hl, hm, by simp, ?_, fun i hi => by rw [g i hi]; exact (hF i hi).2⟩, .inr ⟨_, _, by rw [xe], by simp⟩⟩
    intro f hf
    simp at hf
    obtain ⟨i, hi, rfl⟩ := hf
    exact (hF i hi).1
end Go.Proofs.Ythhacbelbkkcmaa

namespace Go.Proofs.Ythhacbelbkkcmaa
set_option linter.unusedVariables false

/-- Two lists laid together by day; on one day the first list's come first. -/
def mrg : List Fl → List Fl → List Fl
  | xs, [] => xs
  | [], y :: ys => y :: ys
  | x :: xs, y :: ys => if x.d ≤ y.d then x :: mrg xs (y :: ys) else y :: mrg (x :: xs) ys
termination_by xs ys => xs.length + ys.length
def mpairs : List (List Fl) → List (List Fl)
  | [] => []
  | [x] => [mrg x []]
  | x :: y :: l => mrg x y :: mpairs l
def Srt (l : List Fl) : Prop := l.Pairwise (fun a b => a.d ≤ b.d)
def onDay (D : Int) (l : List Fl) : List Fl := l.filter (fun f => decide (f.d = D))
def ltot (Ls : List (List Fl)) : Nat := (Ls.map List.length).sum

theorem mrg_r (xs : List Fl) : mrg xs [] = xs := by unfold mrg; rfl
theorem mrg_l (ys : List Fl) : mrg [] ys = ys := by cases ys <;> simp [mrg]
theorem mrg_le {x y : Fl} {xs ys : List Fl} (h : x.d ≤ y.d) : mrg (x :: xs) (y :: ys) = x :: mrg xs (y :: ys) := by rw [mrg, if_pos h]
theorem mrg_gt {x y : Fl} {xs ys : List Fl} (h : ¬ x.d ≤ y.d) : mrg (x :: xs) (y :: ys) = y :: mrg (x :: xs) ys := by rw [mrg, if_neg h]
theorem mrg_len : ∀ xs ys : List Fl, (mrg xs ys).length = xs.length + ys.length
  | xs, [] => by rw [mrg_r]; simp
  | [], y :: ys => by rw [mrg_l]; simp
  | x :: xs, y :: ys => by
    by_cases h : x.d ≤ y.d
    · rw [mrg_le h, List.length_cons, mrg_len xs (y :: ys)]; simp; omega
    · rw [mrg_gt h, List.length_cons, mrg_len (x :: xs) ys]; simp; omega
termination_by xs ys => xs.length + ys.length
theorem mrg_mem : ∀ (xs ys : List Fl) (f : Fl), f ∈ mrg xs ys → f ∈ xs ∨ f ∈ ys
  | xs, [], f, h => by rw [mrg_r] at h; exact .inl h
  | [], y :: ys, f, h => by rw [mrg_l] at h; exact .inr h
  | x :: xs, y :: ys, f, h => by
    by_cases hc : x.d ≤ y.d
    · rw [mrg_le hc] at h
      rcases List.mem_cons.1 h with rfl | h
      · exact .inl (List.mem_cons_self ..)
      · rcases mrg_mem xs (y :: ys) f h with h | h
        · exact .inl (List.mem_cons_of_mem _ h)
        · exact .inr h
    · rw [mrg_gt hc] at h
      rcases List.mem_cons.1 h with rfl | h
      · exact .inr (List.mem_cons_self ..)
      · rcases mrg_mem (x :: xs) ys f h with h | h
        · exact .inl h
        · exact .inr (List.mem_cons_of_mem _ h)
termination_by xs ys => xs.length + ys.length
theorem mrg_srt : ∀ (xs ys : List Fl), Srt xs → Srt ys → Srt (mrg xs ys)
  | xs, [], h1, h2 => by rw [mrg_r]; exact h1
  | [], y :: ys, h1, h2 => by rw [mrg_l]; exact h2
  | x :: xs, y :: ys, h1, h2 => by
    have a1 := List.pairwise_cons.1 h1
    have a2 := List.pairwise_cons.1 h2
    by_cases hc : x.d ≤ y.d
    · rw [mrg_le hc]
      refine List.pairwise_cons.2 ⟨fun f hf => ?_, mrg_srt xs (y :: ys) a1.2 h2⟩
      rcases mrg_mem xs (y :: ys) f hf with h | h
      · exact a1.1 f h
      · rcases List.mem_cons.1 h with rfl | h
        · exact hc
        · have := a2.1 f h; omega
    · rw [mrg_gt hc]
      refine List.pairwise_cons.2 ⟨fun f hf => ?_, mrg_srt (x :: xs) ys h1 a2.2⟩
      rcases mrg_mem (x :: xs) ys f hf with h | h
      · rcases List.mem_cons.1 h with rfl | h
        · omega
        · have := a1.1 f h; omega
      · exact a2.1 f h
termination_by xs ys => xs.length + ys.length
theorem onDay_none {D : Int} {l : List Fl} (h : ∀ f ∈ l, f.d ≠ D) : onDay D l = [] := by
  unfold onDay
  rw [List.filter_eq_nil_iff]
  intro f hf
  simpa using h f hf
theorem mrg_day (D : Int) : ∀ (xs ys : List Fl), Srt xs → onDay D (mrg xs ys) = onDay D xs ++ onDay D ys
  | xs, [], h1 => by rw [mrg_r]; simp [onDay]
  | [], y :: ys, h1 => by rw [mrg_l]; simp [onDay]
  | x :: xs, y :: ys, h1 => by
    have a1 := List.pairwise_cons.1 h1
    by_cases hc : x.d ≤ y.d
    · rw [mrg_le hc]
      have ih := mrg_day D xs (y :: ys) a1.2
      by_cases hd : x.d = D
      · have e1 : onDay D (x :: mrg xs (y :: ys)) = x :: onDay D (mrg xs (y :: ys)) := by simp [onDay, hd]
        have e2 : onDay D (x :: xs) = x :: onDay D xs := by simp [onDay, hd]
        rw [e1, e2, ih]; rfl
      · have e1 : onDay D (x :: mrg xs (y :: ys)) = onDay D (mrg xs (y :: ys)) := by simp [onDay, hd]
        have e2 : onDay D (x :: xs) = onDay D xs := by simp [onDay, hd]
        rw [e1, e2, ih]
    · rw [mrg_gt hc]
      have ih := mrg_day D (x :: xs) ys h1
      by_cases hd : y.d = D
      · have e1 : onDay D (y :: mrg (x :: xs) ys) = y :: onDay D (mrg (x :: xs) ys) := by simp [onDay, hd]
        have e2 : onDay D (y :: ys) = y :: onDay D ys := by simp [onDay, hd]
        have e3 : onDay D (x :: xs) = [] := onDay_none fun f hf => by
          rcases List.mem_cons.1 hf with rfl | hf
          · omega
          · have := a1.1 f hf; omega
        rw [e1, e2, ih, e3]; rfl
      · have e1 : onDay D (y :: mrg (x :: xs) ys) = onDay D (mrg (x :: xs) ys) := by simp [onDay, hd]
        have e2 : onDay D (y :: ys) = onDay D ys := by simp [onDay, hd]
        rw [e1, e2, ih]
termination_by xs ys => xs.length + ys.length
theorem mpairs_len : ∀ Ls : List (List Fl), (mpairs Ls).length = (Ls.length + 1) / 2
  | [] => rfl
  | [x] => by simp [mpairs]
  | x :: y :: l => by
    have := mpairs_len l
    simp only [mpairs, List.length_cons, this]
    omega
theorem mpairs_srt : ∀ Ls : List (List Fl), (∀ l ∈ Ls, Srt l) → ∀ l ∈ mpairs Ls, Srt l
  | [], h, l, hl => by cases hl
  | [x], h, l, hl => by
    simp only [mpairs, mrg_r, List.mem_singleton] at hl
    subst hl
    exact h _ (List.mem_singleton.2 rfl)
  | x :: y :: r, h, l, hl => by
    simp only [mpairs, List.mem_cons] at hl
    rcases hl with rfl | hl
    · exact mrg_srt x y (h x (by simp)) (h y (by simp))
    · exact mpairs_srt r (fun l hl => h l (by simp [hl])) l hl
theorem mpairs_day (D : Int) : ∀ Ls : List (List Fl), (∀ l ∈ Ls, Srt l) → (mpairs Ls).flatMap (onDay D) = Ls.flatMap (onDay D)
  | [], h => rfl
  | [x], h => by simp [mpairs, mrg_r]
  | x :: y :: r, h => by
    have ih := mpairs_day D r (fun l hl => h l (by simp [hl]))
    simp only [mpairs, List.flatMap_cons, ih, mrg_day D x y (h x (by simp)), List.append_assoc]
theorem mpairs_tot : ∀ Ls : List (List Fl), ltot (mpairs Ls) = ltot Ls
  | [] => rfl
  | [x] => by simp [mpairs, mrg_r]
  | x :: y :: r => by
    have ih := mpairs_tot r
    unfold ltot at ih ⊢
    simp only [mpairs, List.map_cons, List.sum_cons, ih, mrg_len]
    omega
theorem mpairs_at : ∀ (Ls : List (List Fl)) (i : Nat), i < (Ls.length + 1) / 2 → (mpairs Ls).getD i [] = mrg (Ls.getD (2 * i) []) (Ls.getD (2 * i + 1) [])
  | [], i, h => by simp at h
  | [x], 0, h => by simp [mpairs]
  | [x], i + 1, h => by simp at h
  | x :: y :: l, 0, h => by simp [mpairs]
  | x :: y :: l, i + 1, h => by
    have := mpairs_at l i (by simp only [List.length_cons] at h; omega)
    simp only [mpairs, List.getD_cons_succ, this]
    rw [show 2 * (i + 1) = 2 * i + 1 + 1 by omega]
    rfl
theorem ltot_two : ∀ (Ls : List (List Fl)) (i : Nat), (Ls.getD i []).length ≤ ltot Ls
  | [], i => by simp
  | x :: l, 0 => by simp [ltot]
  | x :: l, i + 1 => by
    have := ltot_two l i
    unfold ltot at this ⊢
    simp only [List.getD_cons_succ, List.map_cons, List.sum_cons]
    omega
theorem ltot_pair : ∀ (Ls : List (List Fl)) (i : Nat), (Ls.getD (2 * i) []).length + (Ls.getD (2 * i + 1) []).length ≤ ltot Ls := fun Ls i => by
  by_cases h : i < (Ls.length + 1) / 2
  · have h1 := mpairs_at Ls i h
    have h2 := ltot_two (mpairs Ls) i
    rw [mpairs_tot, h1, mrg_len] at h2
    exact h2
  · have e1 : Ls.getD (2 * i) [] = [] := by rw [List.getD_eq_getElem?_getD, List.getElem?_eq_none (by omega)]; rfl
    have e2 : Ls.getD (2 * i + 1) [] = [] := by rw [List.getD_eq_getElem?_getD, List.getElem?_eq_none (by omega)]; rfl
    rw [e1, e2]; simp
/-- A list is ordered, if each stands behind its neighbour. -/
theorem srt_of {l : List Fl} (h : ∀ i, i + 1 < l.length → (l.getD i default).d ≤ (l.getD (i + 1) default).d) : Srt l := by
  refine List.pairwise_iff_getElem.2 ?_
  have g : ∀ i (hi : i < l.length), l.getD i default = l[i] := fun i hi => by simp [List.getD, hi]
  intro i j hi hj hij
  induction j with
  | zero => omega
  | succ j ih =>
    have h1 := h j hj
    rw [g j (by omega), g (j + 1) hj] at h1
    by_cases e : i = j
    · subst e; exact h1
    · have := ih (by omega) (by omega); omega
theorem srt_at {l : List Fl} (h : Srt l) {i j : Nat} (hij : i ≤ j) (hj : j < l.length) : (l.getD i default).d ≤ (l.getD j default).d := by
  have g : ∀ i (hi : i < l.length), l.getD i default = l[i] := fun i hi => by simp [List.getD, hi]
  rw [g i (by omega), g j hj]
  by_cases e : i = j
  · subst e; exact Int.le_refl _
  · exact (List.pairwise_iff_getElem.1 h) i j (by omega) hj (by omega)
end Go.Proofs.Ythhacbelbkkcmaa

namespace Go.Proofs.Ythhacbelbkkcmaa
open Go.RowKit
set_option linter.unusedVariables false
set_option linter.unusedSimpArgs false

def at8 (s : ByteArray) (i : Nat) : Int := if h : i < s.size then (s[i].toNat : Int) else 0
theorem at8_lt {s : ByteArray} {i : Nat} (h : i < s.size) : at8 s i = (s[i].toNat : Int) := by unfold at8; rw [dif_pos h]
def capB (c : Int) : Bool := decide (65 ≤ c ∧ c ≤ 90)
/-- A currency: three capitals. -/
def curB (s : ByteArray) : Bool := decide (s.size = 3) && (List.range 3).all fun i => capB (at8 s i)
theorem cur_true {s : ByteArray} (h : s.size = 3) (k : ∀ i, i < 3 → capB (at8 s i) = true) : curB s = true := by
  unfold curB; rw [decide_eq_true h, Bool.true_and, List.all_eq_true]; exact fun i hi => k i (List.mem_range.1 hi)
theorem cur_false {s : ByteArray} {i : Nat} (hi : i < 3) (k : capB (at8 s i) = false) : curB s = false := by
  unfold curB
  rw [Bool.and_eq_false_iff]; right
  rw [List.all_eq_false]
  exact ⟨i, List.mem_range.2 hi, by rw [k]; simp⟩
theorem cur_size {s : ByteArray} (h : s.size ≠ 3) : curB s = false := by
  unfold curB; rw [decide_eq_false h, Bool.false_and]
theorem cur_out {s : ByteArray} (h : curB s = true) : s.size = 3 ∧ ∀ i, i < 3 → capB (at8 s i) = true := by
  unfold curB at h
  rw [Bool.and_eq_true, List.all_eq_true] at h
  exact ⟨of_decide_eq_true h.1, fun i hi => h.2 i (List.mem_range.2 hi)⟩

theorem ret_b {a b : Bool} (h : a = b) : Ending.returned (.bool a) = .returned (.bool b) := by rw [h]
theorem ret_i {k : IntKind} {a b : Int} (h : a = b) : Ending.returned (.int k a) = .returned (.int k b) := by rw [h]

theorem isCapital_any (c : Int) (w : World) : Calls Try.prog 62 #[.int .u8 c] w fun e w' => e = .returned (.bool (capB c)) ∧ w' = w := by
  go_enter Try.func62, Try.ntmps62
  go_wp2
  all_goals go_ret
  all_goals refine ⟨ret_b ?_, rfl⟩
  all_goals (unfold capB; first | (simp_all; done) | (simp_all; omega))

set_option maxHeartbeats 1000000 in
theorem rCurrency_any (s : ByteArray) (w : World) (hs : s.size ≤ maxLen) :
    Calls Try.prog 49 #[.string s] w fun e w' => e = .returned (.bool (curB s)) ∧ w' = w := by
  by_cases h : s.size = 3
  · have h2 : (s.size : Int) = 3 := by omega
    obtain ⟨B, hB⟩ : ∃ B, curB s = B := ⟨_, rfl⟩
    have HB := Lib.hid hB
    rw [hB]; clear hB
    go_enter Try.func49, Try.ntmps49
    go_wp2
    go_loop [3] (fun t => ∃ k : Nat, k ≤ 3 ∧ t = .int .i64 k ∧ RowKit.Hid (∀ i, i < k → capB (at8 s i) = true)) (fun t => 3 - (intOf t).toNat)
    case atStart => exact ⟨0, by omega, rfl, fun i hi => absurd hi (by omega)⟩
    case round =>
      obtain ⟨k, hk, rfl, hN⟩ := hrel
      by_cases hlt : k < 3
      · have hks : k < s.size := by omega
        have E := Lib.hid (at8_lt hks)
        have NX := Lib.hid (p := capB (at8 s k) = true → ∀ i, i < k + 1 → capB (at8 s i) = true) (fun g i hi => by
          rcases (show i < k ∨ i = k by omega) with q | q
          · exact hN.out i q
          · rw [q]; exact g)
        have NO := Lib.hid (p := capB (at8 s k) = false → false = B) (fun g => by rw [← HB.out, cur_false hlt g])
        by_cases c1 : (s[k].toNat : Int) < 65
        · have OK := Lib.hid (p := capB (at8 s k) = false) (by rw [E.out]; exact decide_eq_false (by omega))
          go_wp2
          go_ret
          exact ⟨ret_b (NO.out OK.out), rfl⟩
        · by_cases c2 : (90 : Int) < (s[k].toNat : Int)
          · have OK := Lib.hid (p := capB (at8 s k) = false) (by rw [E.out]; exact decide_eq_false (by omega))
            go_wp2
            go_ret
            exact ⟨ret_b (NO.out OK.out), rfl⟩
          · have OK := Lib.hid (p := capB (at8 s k) = true) (by rw [E.out]; exact decide_eq_true (by omega))
            go_wp2
            go_round
            case rel => exact ⟨k + 1, by omega, by simp, NX.out OK.out⟩
            case measure => simp [intOf]; omega
      · obtain rfl : k = 3 := by omega
        go_wp2
        go_ret
        exact ⟨ret_b (by rw [← HB.out, cur_true h hN.out]), rfl⟩
  · rw [cur_size h]
    have h2 : ¬ (s.size : Int) = 3 := by omega
    go_enter Try.func49, Try.ntmps49
    go_wp2
    go_ret
    exact ⟨rfl, rfl⟩

/-- What is wrong with a flow: 0, 1, 2. -/
def valI (f : Fl) : Int := if curB f.c = false then 1 else if f.d < 0 ∨ 1073741824 < f.d then 2 else 0

set_option maxHeartbeats 1000000 in
theorem rValid_any (d a : Int) (c : ByteArray) (w : World) (hs : c.size ≤ maxLen) :
    Calls Try.prog 37 #[.agg #[.int .i64 d, .string c, .int .i64 a]] w fun e w' => e = .returned (.int .i64 (valI ⟨d, c, a⟩)) ∧ Below w.heap.size w w' := by
  obtain ⟨V, hV⟩ : ∃ V, valI ⟨d, c, a⟩ = V := ⟨_, rfl⟩
  have HV := Lib.hid hV
  rw [hV]; clear hV
  cases h : curB c with
  | false =>
    have HV' := Lib.hid (p := (1 : Int) = V) (by rw [← HV.out]; simp [valI, h])
    go_enter Try.func37, Try.ntmps37
    go_wp2_with (go_at_call 49; refine (rCurrency_any _ _ hs).mono ?_; rintro e w' ⟨rfl, rfl⟩; rw [h])
    go_ret
    exact ⟨ret_i HV'.out, (Below.refl _ _).alloc (Nat.le_refl _) _⟩
  | true =>
    have HW := Lib.hid (p := (if d < 0 ∨ 1073741824 < d then (2 : Int) else 0) = V) (by rw [← HV.out]; simp [valI, h])
    go_enter Try.func37, Try.ntmps37
    go_wp2_with (go_at_call 49; refine (rCurrency_any _ _ hs).mono ?_; rintro e w' ⟨rfl, rfl⟩; rw [h])
    all_goals go_ret
    all_goals refine ⟨ret_i ?_, (Below.refl _ _).alloc (Nat.le_refl _) _⟩
    all_goals (rw [← HW.out]; first | (rw [if_pos (by simp_all; try omega)]; done) | (rw [if_neg (by simp_all; try omega)]; done))
end Go.Proofs.Ythhacbelbkkcmaa

namespace Go.Proofs.Ythhacbelbkkcmaa
open Go.RowKit
set_option linter.unusedVariables false
set_option linter.unusedSimpArgs false

def sLt (x y : ByteArray) : Bool := Op.bytesLess x.toList y.toList
def sEq (x y : ByteArray) : Bool := x.toList == y.toList
def cmpI (x y : Int) : Int := if x < y then -1 else if y < x then 1 else 0
def cmpS (x y : ByteArray) : Int := if sLt x y then -1 else if sLt x y || sEq x y then 0 else 1
def orI (a b c : Int) : Int := if a ≠ 0 then a else if b ≠ 0 then b else c
def cmpF (f g : Fl) : Int := orI (cmpI f.d g.d) (cmpS f.c g.c) (cmpI f.a g.a)

theorem isNaN_int (x : Int) (w : World) : Calls Try.prog 59 #[.int .i64 x] w fun e w' => e = .returned (.bool false) ∧ w' = w := by
  go_enter Try.func59, Try.ntmps59
  go_wp2
  go_ret
  exact ⟨rfl, rfl⟩
theorem isNaN_str (x : ByteArray) (w : World) : Calls Try.prog 48 #[.string x] w fun e w' => e = .returned (.bool false) ∧ w' = w := by
  go_enter Try.func48, Try.ntmps48
  go_wp2
  go_ret
  exact ⟨rfl, rfl⟩
set_option maxHeartbeats 1000000 in
theorem compare_int (x y : Int) (w : World) : Calls Try.prog 44 #[.int .i64 x, .int .i64 y] w fun e w' => e = .returned (.int .i64 (cmpI x y)) ∧ w' = w := by
  unfold cmpI
  go_enter Try.func44, Try.ntmps44
  go_wp2_with (go_at_call 59; refine (isNaN_int _ _).mono ?_; rintro e w' ⟨rfl, rfl⟩)
  all_goals go_ret
  all_goals refine ⟨ret_i ?_, rfl⟩
  all_goals (simp_all; try omega)
theorem gtrS (t : TypeId) (x y : ByteArray) : binOp .gtr t (.string x) (.string y) = pure (.bool (!(Op.bytesLess x.toList y.toList || (x.toList == y.toList)))) := by simp [binOp, Op.stringOp]
set_option maxHeartbeats 1000000 in
theorem compare_str (x y : ByteArray) (w : World) : Calls Try.prog 33 #[.string x, .string y] w fun e w' => e = .returned (.int .i64 (cmpS x y)) ∧ w' = w := by
  have HC := Lib.hid (p := ∀ a b, sLt x y = a → sEq x y = b → cmpS x y = if a then -1 else if a || b then 0 else 1) (fun a b h1 h2 => by unfold cmpS; rw [h1, h2])
  generalize cmpS x y = C at HC ⊢
  cases h1 : Op.bytesLess x.toList y.toList <;> cases h2 : (x.toList == y.toList)
  all_goals
    have HD := Lib.hid (HC.out _ _ h1 h2)
    have hg := gtrS 9 x y
    rw [h1, h2] at hg
    go_enter Try.func33, Try.ntmps33
    go_wp2_with (go_at_call 48; refine (isNaN_str _ _).mono ?_; rintro e w' ⟨rfl, rfl⟩)
    go_ret
    exact ⟨ret_i (by rw [HD.out]; rfl), rfl⟩

set_option maxHeartbeats 1000000 in
theorem or_any (g : Nat) (a b c : Int) (w : World) (c0 : w.cell? ⟨g, 0, none⟩ = some (.int .i64 a)) (c1 : w.cell? ⟨g, 1, none⟩ = some (.int .i64 b)) (c2 : w.cell? ⟨g, 2, none⟩ = some (.int .i64 c)) :
    Calls Try.prog 43 #[.slice (some ⟨g, 0, none⟩) 3 3] w fun e w' => e = .returned (.int .i64 (orI a b c)) ∧ w' = w := by
  obtain ⟨V, hV⟩ : ∃ V, orI a b c = V := ⟨_, rfl⟩
  have HV := Lib.hid hV
  rw [hV]; clear hV
  go_enter Try.func43, Try.ntmps43
  go_wp2
  go_loop [8] (fun t => ∃ k : Nat, k ≤ 3 ∧ t = .int .i64 k ∧ (0 < k → a = 0) ∧ (1 < k → b = 0) ∧ (2 < k → c = 0)) (fun t => 3 - (intOf t).toNat)
  case atStart => exact ⟨0, by omega, rfl, fun h => absurd h (by omega), fun h => absurd h (by omega), fun h => absurd h (by omega)⟩
  case round =>
    obtain ⟨k, hk, rfl, e0, e1, e2⟩ := hrel
    rcases (show k = 0 ∨ k = 1 ∨ k = 2 ∨ k = 3 by omega) with rfl | rfl | rfl | rfl
    · have HR := Lib.hid (p := a ≠ 0 → a = V) (fun h => by rw [← HV.out]; simp [orI, h])
      by_cases h : a = 0
      · go_wp2
        go_round
        case rel => exact ⟨1, by omega, rfl, fun _ => h, fun q => absurd q (by omega), fun q => absurd q (by omega)⟩
        case measure => simp [intOf]
      · go_wp2
        go_ret
        exact ⟨ret_i (HR.out h), rfl⟩
    · have E0 := Lib.hid (e0 (by omega))
      have HR := Lib.hid (p := b ≠ 0 → b = V) (fun h => by rw [← HV.out]; simp [orI, h, E0.out])
      by_cases h : b = 0
      · go_wp2
        go_round
        case rel => exact ⟨2, by omega, rfl, fun _ => E0.out, fun _ => h, fun q => absurd q (by omega)⟩
        case measure => simp [intOf]
      · go_wp2
        go_ret
        exact ⟨ret_i (HR.out h), rfl⟩
    · have E0 := Lib.hid (e0 (by omega))
      have E1 := Lib.hid (e1 (by omega))
      have HR := Lib.hid (p := c ≠ 0 → c = V) (fun h => by rw [← HV.out]; simp [orI, E0.out, E1.out])
      by_cases h : c = 0
      · go_wp2
        go_round
        case rel => exact ⟨3, by omega, rfl, fun _ => E0.out, fun _ => E1.out, fun _ => h⟩
        case measure => simp [intOf]
      · go_wp2
        go_ret
        exact ⟨ret_i (HR.out h), rfl⟩
    · have HR := Lib.hid (p := (0 : Int) = V) (by rw [← HV.out]; simp [orI, e0 (by omega), e1 (by omega), e2 (by omega)])
      go_wp2
      go_ret
      exact ⟨ret_i HR.out, rfl⟩

set_option maxHeartbeats 1000000 in
theorem byDay_any (d a d' a' : Int) (c c' : ByteArray) (w : World) :
    Calls Try.prog 35 #[.agg #[.int .i64 d, .string c, .int .i64 a], .agg #[.int .i64 d', .string c', .int .i64 a']] w fun e w' => e = .returned (.int .i64 (cmpI d d')) ∧ w' = (w.alloc (.cells #[.int .i64 d, .string c, .int .i64 a] 40)).alloc (.cells #[.int .i64 d', .string c', .int .i64 a'] 40) := by
  generalize hc : cmpI d d' = C
  go_enter Try.func35, Try.ntmps35
  go_wp2_with (go_at_call 44; refine (compare_int _ _ _).mono ?_; rintro e w' ⟨rfl, rfl⟩; rw [hc])
  all_goals go_ret
  all_goals exact ⟨rfl, rfl⟩

set_option maxHeartbeats 2000000 in
theorem rCompare_any (d a d' a' : Int) (c c' : ByteArray) (w : World) :
    Calls Try.prog 46 #[.agg #[.int .i64 d, .string c, .int .i64 a], .agg #[.int .i64 d', .string c', .int .i64 a']] w fun e w' => e = .returned (.int .i64 (cmpF ⟨d, c, a⟩ ⟨d', c', a'⟩)) ∧ Below w.heap.size w w' := by
  have HC := Lib.hid (p := cmpF ⟨d, c, a⟩ ⟨d', c', a'⟩ = orI (cmpI d d') (cmpS c c') (cmpI a a')) rfl
  generalize cmpF ⟨d, c, a⟩ ⟨d', c', a'⟩ = C at HC ⊢
  have hl : ∀ l e, sLt c c' = l → sEq c c' = e → cmpS c c' = if l then -1 else if l || e then 0 else 1 := fun l e h1 h2 => by unfold cmpS; rw [h1, h2]
  cases h1 : Op.bytesLess c.toList c'.toList <;> cases h2 : (c.toList == c'.toList)
  all_goals
    have HS := Lib.hid (hl _ _ h1 h2)
    have hg := gtrS 9 c c'
    rw [h1, h2] at hg
    go_enter Try.func46, Try.ntmps46
    go_wp2
    all_goals go_ret
    all_goals refine ⟨ret_i ?_, ((Below.refl _ _).alloc (Nat.le_refl _) _).alloc (by simp) _⟩
    all_goals (rw [HC.out, HS.out]; unfold orI cmpI; simp_all; try omega)
end Go.Proofs.Ythhacbelbkkcmaa

namespace Go.Proofs.Ythhacbelbkkcmaa
open Go.RowKit
set_option linter.unusedVariables false
set_option linter.unusedSimpArgs false

/-- A list of flows, where the world holds it. -/
def FC (w : World) (b o : Nat) (f : Fl) : Prop := w.cell? ⟨b, o, none⟩ = some (.int .i64 f.d) ∧ w.cell? ⟨b, o + 1, none⟩ = some (.string f.c) ∧ w.cell? ⟨b, o + 2, none⟩ = some (.int .i64 f.a)
def FL (w : World) (a : Option Addr) (n : Nat) (fs : List Fl) : Prop :=
  fs.length = n ∧ n ≤ 4398046511000 ∧ (n = 0 ∨ ∃ b o, a = some ⟨b, o, none⟩ ∧ b < w.heap.size ∧ ∀ i, i < n → FC w b (o + i * 3) (fs.getD i default))
theorem FC.later {w w' : World} {B b o : Nat} {f : Fl} (h : FC w b o f) (hb : Below B w w') (hB : b < B) : FC w' b o f :=
  ⟨(hb.cell (p := ⟨b, o, none⟩) hB).trans h.1, (hb.cell (p := ⟨b, o + 1, none⟩) hB).trans h.2.1, (hb.cell (p := ⟨b, o + 2, none⟩) hB).trans h.2.2⟩
theorem FL.later {w w' : World} {a n fs} (h : FL w a n fs) (b : Below w.heap.size w w') : FL w' a n fs := by
  obtain ⟨h1, h2, h3⟩ := h
  refine ⟨h1, h2, ?_⟩
  rcases h3 with h3 | ⟨x, o, rfl, hx, hc⟩
  · exact .inl h3
  · exact .inr ⟨x, o, rfl, Nat.lt_of_lt_of_le hx b.size, fun i hi => (hc i hi).later b hx⟩

/-- The cells of a list of flows. -/
def fcs (fs : List Fl) : List Value := fs.flatMap Fl.cells
theorem fcs_len (fs : List Fl) : (fcs fs).length = fs.length * 3 := by
  induction fs with
  | nil => rfl
  | cons f fs ih => simp [fcs, Fl.cells] at ih ⊢; omega
theorem fcs_snoc (fs : List Fl) (f : Fl) : fcs (fs ++ [f]) = fcs fs ++ f.cells := by simp [fcs]
theorem fcs_at (fs : List Fl) : ∀ i, i < fs.length → ∀ j, j < 3 → (fcs fs)[i * 3 + j]? = (fs.getD i default).cells[j]? := by
  induction fs with
  | nil => intro i hi; simp at hi
  | cons f fs ih =>
    intro i hi j hj
    have e : fcs (f :: fs) = f.cells ++ fcs fs := rfl
    rw [e]
    match i with
    | 0 => rw [Nat.zero_mul, Nat.zero_add, List.getElem?_append_left (by simp [Fl.cells]; omega)]; rfl
    | i + 1 =>
      rw [List.getElem?_append_right (by simp [Fl.cells]; omega)]
      rw [show (i + 1) * 3 + j - f.cells.length = i * 3 + j by simp [Fl.cells]; omega, ih i (by simpa using hi) j hj]
      rfl

theorem infoF : (Try.prog.info? 40).map (fun i => (i.zero, i.size, i.bytes)) = some (some (.agg #[.int .i64 0, .string ⟨#[]⟩, .int .i64 0]), 3, 32) := by kernel_rfl

/-- A row that the call itself has gathered is a list in memory. -/
theorem fl_of_own {w : World} {B : Nat} {v : Value} {fs : List Fl} (h : w.ownsRow B 40 3 v fs.length (fcs fs)) (hl : fs.length ≤ 4398046511000) : ∃ a cap, v = .slice a fs.length cap ∧ FL w a fs.length fs := by
  obtain ⟨h1, h2⟩ := h
  rcases h2 with ⟨rfl, h2⟩ | ⟨g, cap, cur, rfl, hB, hg, hn, hm, hs, ht⟩
  · exact ⟨none, 0, by rw [h2], rfl, hl, .inl h2⟩
  · refine ⟨_, cap, rfl, rfl, hl, .inr ⟨g, 0, rfl, (Array.getElem?_eq_some_iff.1 hg).1, fun i hi => ?_⟩⟩
    have key : ∀ j, j < 3 → w.cell? ⟨g, i * 3 + j, none⟩ = (fs.getD i default).cells[j]? := fun j hj => by
      have e : w.cell? ⟨g, i * 3 + j, none⟩ = cur[i * 3 + j]? := by simp [World.cell?, hg]
      rw [e, ← fcs_at fs i hi j hj, ← ht, List.getElem?_take_of_lt (by omega)]
      simp
    rw [Nat.zero_add]
    exact ⟨key 0 (by omega), key 1 (by omega), key 2 (by omega)⟩

theorem own_snocF {w : World} {B : Nat} {v : Value} {fs : List Fl} {f : Fl} (h : w.ownsRow B 40 3 v (fs.length + 1) (fcs fs ++ f.cells)) : w.ownsRow B 40 3 v (fs ++ [f]).length (fcs (fs ++ [f])) := by
  rw [fcs_snoc]; simpa using h

theorem own_sliceF {w : World} {B : Nat} {v : Value} {fs : List Fl} {f : Fl} (h : w.ownsRow B 40 3 v (fs ++ [f]).length (fcs (fs ++ [f]))) : ∃ g cap, v = .slice (some ⟨g, 0, none⟩) (fs ++ [f]).length cap := by
  obtain ⟨h1, h2⟩ := h
  rcases h2 with ⟨rfl, h2⟩ | ⟨g, cap, cur, rfl, _⟩
  · simp at h2
  · exact ⟨g, cap, rfl⟩

/-- 'out = append(out, f)' of a list of flows that the call itself gathers. -/
theorem wp_flow {ops : Array Oper} {rest : List Oper} {o : Oper} {a : Act} {Q : Exit → Act → World → Prop} (w : World) (d m : Int) (c : ByteArray) (hgd : o.guard = none) (s x : Operand)
    (ho : o.op = .call { callee := .builtin .append, args := #[s, x], argTypes := #[24, 24] }) (base : Nat) (v : Value) (fs : List Fl) (hs : a.eval s = v)
    (hx : a.eval x = .slice (some ⟨w.heap.size, 0, none⟩) 1 1) (hown : w.ownsRow base 40 3 v fs.length (fcs fs)) (hl : fs.length ≤ 4398046511000) (hb : base ≤ w.heap.size)
    (h : ∀ v' w', w'.ownsRow base 40 3 v' (fs ++ [Fl.mk d c m]).length (fcs (fs ++ [Fl.mk d c m])) → (w.alloc (.cells #[.int .i64 d, .string c, .int .i64 m] 40)).grownBy w' v.ownBlock → wpList Try.prog ops Q rest (a.put o.dst v') w') :
    wpList Try.prog ops Q (o :: rest) a (w.alloc (.cells #[.int .i64 d, .string c, .int .i64 m] 40)) := by
  obtain ⟨i0, hi, hz0, hz1, hz2⟩ := info_parts infoF
  refine wpList_append_own _ hgd s x 24 ho base 40 i0 (.agg #[.int .i64 0, .string ⟨#[]⟩, .int .i64 0]) 3 32 Try.underlying24 hi hz0 hz1 hz2 rfl (by decide) v _ _ hs (hown.alloc _) ⟨w.heap.size, 0, none⟩ 1 1 (Fl.cells (Fl.mk d c m)) hx rfl ?_ ?_ (by unfold maxLen; omega) (by omega) (by simp; omega) ?_
  · intro j u hj
    match j, hj with
    | 0, hj => simp [Fl.cells] at hj; subst hj; simp [Addr.add]
    | 1, hj => simp [Fl.cells] at hj; subst hj; simp [Addr.add]
    | 2, hj => simp [Fl.cells] at hj; subst hj; simp [Addr.add]
  · intro u hu
    simp [Fl.cells] at hu
    rcases hu with rfl | rfl | rfl <;> rfl
  · intro v' w' h1 h2 _
    exact h v' w' (own_snocF h1) h2
end Go.Proofs.Ythhacbelbkkcmaa
