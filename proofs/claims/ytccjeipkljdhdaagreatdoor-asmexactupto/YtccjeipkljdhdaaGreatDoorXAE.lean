import Derived.Test.YtccjeipkljdhdaaGreatDoorRows
import Derived.Test.YtccjeipkljdhdaaGreatDoorXAA
import Derived.WalkKit
import Derived.WalkSpells
import Derived.BigCall
import Derived.BigGuard
import Derived.BigQuiet
import Derived.Deep.QuietTactic
import Derived.Lib.Hide
import Derived.Lib.Strings
import Derived.Deep.RegionHeld3
import Derived.Laws.AppendOwn
import Derived.Laws.AppendOwnNone
import Derived.Laws.OwnMore
import Derived.Laws.MakeOwn
import Derived.Maps.AppendAt
import Derived.Deep.AppendLies
import Derived.Deep.RegionLaw
import Derived.Deep.Cut
import Derived.Deep.CutRange
import Derived.Deep.DeepCutAuto
import Derived.OwnWalk
import Derived.Laws.Cover3
import Derived.ProofKit
import Derived.Lib.AtoiAll
import Derived.Below
namespace Go.Proofs.YtccjeipkljdhdaaGreatDoor
open Go.RowKit
set_option linter.unusedVariables false
set_option linter.unusedSimpArgs false

theorem retBP {b c : Bool} (h : b = c) : Ending.returned (.bool b) = Ending.returned (.bool c) := by rw [h]
theorem Row.twoP {w : World} {a a' : Option Addr} {n k : Nat} {V V' : Nat → List Value} (h : Row w a n k V) (h' : Row w a' n k V') : 0 < n → ∃ x o y p, a = some ⟨x, o, none⟩ ∧ a' = some ⟨y, p, none⟩ ∧ ∀ i, i < n → ∀ j, j < k → w.cell? ⟨x, o + i * k + j, none⟩ = some ((V i).getD j default) ∧ w.cell? ⟨y, p + i * k + j, none⟩ = some ((V' i).getD j default) := by
  intro h0
  rcases h with h | ⟨x, o, e, _, hc⟩
  · omega
  rcases h' with h' | ⟨y, p, e', _, hc'⟩
  · omega
  exact ⟨x, o, y, p, e, e', fun i hi j hj => ⟨hc i hi j hj, hc' i hi j hj⟩⟩
end Go.Proofs.YtccjeipkljdhdaaGreatDoor

namespace Go.Proofs.YtccjeipkljdhdaaGreatDoor
open Go.RowKit
set_option linter.unusedVariables false
set_option linter.unusedSimpArgs false
theorem allocBP (W : World) (o : Obj) : Below W.heap.size W (W.alloc o) := (Below.refl _ _).alloc (Nat.le_refl _) _
theorem drewBP (W : World) (q : Nat) : Below W.heap.size W (W.drewN q) := ⟨rfl, rfl, rfl, Nat.le_refl _, fun _ _ => rfl⟩
theorem alloc2 (W : World) (o o' : Obj) : Below W.heap.size W ((W.alloc o).alloc o') := ((Below.refl _ _).alloc (Nat.le_refl _) _).alloc (by simp) _
theorem cell_keepA {W : World} {b o : Nat} {v : Value} (h : W.cell? ⟨b, o, none⟩ = some v) (ob : Obj) : (W.alloc ob).cell? ⟨b, o, none⟩ = some v := by
  obtain ⟨b', o', e, hb⟩ := taddr_of h
  injection e with e1 e2
  subst e1 e2
  rw [(allocBP W ob).cell (p := ⟨b, o, none⟩) hb]
  exact h
def Sg.key (s : Sg) : Int × List In := (s.day, s.code)
theorem keys_at {l l' : List Sg} (h : l.map Sg.key = l'.map Sg.key) (i : Nat) : (l.getD i default).key = (l'.getD i default).key := by
  have := congrArg (fun m => m[i]?) h
  simp only [List.getElem?_map] at this
  simp only [List.getD]
  cases h1 : l[i]? <;> cases h2 : l'[i]? <;> rw [h1, h2] at this <;> simp at this ⊢
  exact this
theorem sg_mem {l : List Sg} {i : Nat} (h : i < l.length) : l.getD i default ∈ l := by
  rw [List.getD_eq_getElem?_getD, List.getElem?_eq_getElem h, Option.getD_some]; exact List.getElem_mem h
end Go.Proofs.YtccjeipkljdhdaaGreatDoor

namespace Go.Proofs.YtccjeipkljdhdaaGreatDoor
open Go.RowKit
set_option linter.unusedVariables false
set_option linter.unusedSimpArgs false
/-- What a program says, without where it lies. -/
def Pg.key (p : Pg) : List ByteArray × List ByteArray × List Int × Int × Int × Int × Int × List (Int × List In) := (p.names, p.curs, p.pool, p.hor, p.cells, p.slots, p.stack, p.days.map Sg.key)
noncomputable instance (p q : Pg) : Decidable (p.key = q.key) := Classical.propDecidable _
theorem key_of {p q : Pg} (h : p.key = q.key) : p.names = q.names ∧ p.curs = q.curs ∧ p.pool = q.pool ∧ p.hor = q.hor ∧ p.cells = q.cells ∧ p.slots = q.slots ∧ p.stack = q.stack ∧ p.days.map Sg.key = q.days.map Sg.key := by
  unfold Pg.key at h
  simp only [Prod.mk.injEq] at h
  exact h
def Pg.agg (p : Pg) : Value := .agg #[.slice p.na p.names.length p.nc, .slice p.ua p.curs.length p.uc, .slice p.pa p.pool.length p.pc, .int .i64 p.hor, .int .i64 p.cells, .int .i64 p.slots, .int .i64 p.stack, .slice p.da p.days.length p.dc]
def Pg.box (p : Pg) : Obj := .cells #[.slice p.na p.names.length p.nc, .slice p.ua p.curs.length p.uc, .slice p.pa p.pool.length p.pc, .int .i64 p.hor, .int .i64 p.cells, .int .i64 p.slots, .int .i64 p.stack, .slice p.da p.days.length p.dc] 27
end Go.Proofs.YtccjeipkljdhdaaGreatDoor

namespace Go.Proofs.YtccjeipkljdhdaaGreatDoor
open Go.RowKit
set_option linter.unusedVariables false
set_option linter.unusedSimpArgs false

theorem infoPN : (Tryz.prog.info? 3).map (fun i => (i.zero, i.size, i.bytes)) = some (some (.int .i64 0), 1, 8) := by kernel_rfl
/-- A block, whole. -/
def BkP (w : World) (b : Nat) (cs : Array Value) (t : TypeId) : Prop := w.heap[b]? = some (.cells cs t (0, 0))
theorem BkP.cell {w : World} {b : Nat} {cs : Array Value} {t : TypeId} (h : BkP w b cs t) (k : Nat) : w.cell? ⟨b, k, none⟩ = cs[k]? := by
  unfold BkP at h; simp [World.cell?, h]
theorem BkP.frozen {w : World} {b : Nat} {cs : Array Value} {t : TypeId} (h : BkP w b cs t) (k : Nat) : w.frozen? ⟨b, k, none⟩ = false := by
  unfold BkP at h; simp [World.frozen?, h]
theorem BkP.lt {w : World} {b : Nat} {cs : Array Value} {t : TypeId} (h : BkP w b cs t) : b < w.heap.size := (Array.getElem?_eq_some_iff.1 h).1
theorem BkP.grown {w w' : World} {b : Nat} {cs : Array Value} {t : TypeId} {r : Option Nat} (h : BkP w b cs t) (g : w.grownBy w' r) (hb : some b ≠ r) : BkP w' b cs t := (g.block b h.lt hb).trans h
theorem BkP.set {w : World} {b : Nat} {cs : Array Value} {t : TypeId} (h : BkP w b cs t) (k : Nat) (v : Value) (hk : k < cs.size) : BkP (w.setCell ⟨b, k, none⟩ v) b (cs.set k v) t := by
  unfold BkP at *
  simp only [World.setCell, Array.getElem?_modify, if_true, h, Option.map_some]
  simp [Array.set!, Array.setIfInBounds, hk]
theorem BkP.other {w : World} {b : Nat} {cs : Array Value} {t : TypeId} (h : BkP w b cs t) (p : Nat) (k : Nat) (v : Value) (hp : p ≠ b) : BkP (w.setCell ⟨p, k, none⟩ v) b cs t := by
  unfold BkP at *
  simp only [World.setCell, Array.getElem?_modify, if_neg hp, h]
/-- A row that lies between two places. -/
structure RF where
  lo : Nat
  hi : Nat
  T : TypeId
  k : Nat
  v : Value
  n : Nat
  xs : List Value
structure RF.at (r : RF) (W : World) : Prop where
  own : W.ownsRow r.lo r.T r.k r.v r.n r.xs
  hi : ∀ b, r.v.ownBlock = some b → b < r.hi
theorem row_farP {W W' : World} {B e s n : Nat} {v : Value} {xs : List Value} (h : W.ownsRow B e s v n xs) {r : Option Nat} (g : W.grownBy W' r) (hr : ∀ k q, r = some k → v.ownBlock = some q → k ≠ q) : W'.ownsRow B e s v n xs := by
  refine h.kept g ?_
  rcases hv : v.ownBlock with _ | q
  · exact .inl rfl
  · right
    intro e
    rcases r with _ | k
    · cases e
    · injection e with e
      exact hr k q rfl hv e.symm
theorem RF.at.grown {r : RF} {W W' : World} (h : r.at W) {x : Option Nat} (g : W.grownBy W' x) (hx : ∀ k, x = some k → k < r.lo ∨ r.hi ≤ k) : r.at W' :=
  ⟨row_farP h.own g (fun k q e e2 => by have := h.own.lt q e2; have := h.hi q e2; rcases hx k e with t | t <;> omega), h.hi⟩
def pz : Array Value := #[.slice none 0 0, .slice none 0 0, .slice none 0 0, .int .i64 0, .int .i64 0, .int .i64 0, .int .i64 0, .slice none 0 0]
def Pg.arr (p : Pg) : Array Value := #[.slice p.na p.names.length p.nc, .slice p.ua p.curs.length p.uc, .slice p.pa p.pool.length p.pc, .int .i64 p.hor, .int .i64 p.cells, .int .i64 p.slots, .int .i64 p.stack, .slice p.da p.days.length p.dc]
theorem gr_below {W W' : World} (b : Below W.heap.size W W') (r : Option Nat) : W.grownBy W' r := ⟨b.os, b.tape, b.output, b.size, fun k hk _ => b.block k hk⟩
theorem drew1B (W : World) : Below W.heap.size W W.drew := (Below.refl _ _).drew
theorem setCell_gr (W : World) (b j : Nat) (v : Value) : W.grownBy (W.setCell ⟨b, j, none⟩ v) (some b) := by
  refine ⟨rfl, rfl, rfl, by simp, fun i hi hn => ?_⟩
  have hp : ¬ b = i := fun e => hn (by rw [e])
  simp [World.setCell, Array.getElem?_modify, hp]
theorem heapN (w : World) (o : Obj) : (w.alloc o).heap[w.heap.size]? = some o := by show (w.heap.push o)[w.heap.size]? = _; simp
end Go.Proofs.YtccjeipkljdhdaaGreatDoor

namespace Go.Proofs.YtccjeipkljdhdaaGreatDoor
open Go.RowKit
set_option linter.unusedVariables false
set_option linter.unusedSimpArgs false

def strsP (ss : List ByteArray) : List Value := ss.map Value.string
def intsP (l : List Int) : List Value := l.map (Value.int .i64)
def icsP (l : List In) : List Value := l.flatMap icell
theorem sr_news {W : World} {x : Addr} {n c : Nat} {ss : List ByteArray} (h : SR W (some x) n c ss) : ∀ j u, (strsP ss)[j]? = some u → W.cell? (x.add j) = some u := by
  obtain ⟨_, hl, _, _, hr⟩ := h
  intro j u hj
  have hjn : j < ss.length := by have := (List.getElem?_eq_some_iff.1 hj).1; simpa [strsP] using this
  rcases hr with q | ⟨b, o, e, _, hc⟩
  · omega
  · injection e with e
    subst e
    have h := hc j (by omega) 0 (by omega)
    rw [Go.Addr.add_lit]
    simp only [Nat.mul_one, Nat.add_zero, List.getD_cons_zero] at h
    rw [h]
    simp [strsP, hjn] at hj
    simp [List.getD, hjn, hj]
def sgsP (l : List Sg) : List Value := l.flatMap Sg.cs
theorem sgsP_app (a b : List Sg) : sgsP (a ++ b) = sgsP a ++ sgsP b := by simp [sgsP]
theorem icsP_len (l : List In) : (icsP l).length = l.length * 3 := by
  induction l with
  | nil => rfl
  | cons x r ih => simp only [icsP, List.flatMap_cons, List.length_append, List.length_cons] at *; rw [ih]; simp [icell]; omega
end Go.Proofs.YtccjeipkljdhdaaGreatDoor

namespace Go.Proofs.YtccjeipkljdhdaaGreatDoor
open Go.RowKit
set_option linter.unusedVariables false
set_option linter.unusedSimpArgs false
theorem bel_dr {w W : World} (b : Below w.heap.size w W) (q : Nat) : Below w.heap.size w (W.drewN q) := b.trans ((drewBP W q).mono b.size)
theorem box_all8 {w : World} {x : Nat} {a b c d e f g h : Value} {t : TypeId} (k : w.heap[x]? = some (.cells #[a, b, c, d, e, f, g, h] t)) : w.cell? ⟨x, 0, none⟩ = some a ∧ w.cell? ⟨x, 1, none⟩ = some b ∧ w.cell? ⟨x, 2, none⟩ = some c ∧ w.cell? ⟨x, 3, none⟩ = some d ∧ w.cell? ⟨x, 4, none⟩ = some e ∧ w.cell? ⟨x, 5, none⟩ = some f ∧ w.cell? ⟨x, 6, none⟩ = some g ∧ w.cell? ⟨x, 7, none⟩ = some h := by
  refine ⟨?_, ?_, ?_, ?_, ?_, ?_, ?_, ?_⟩ <;> simp [World.cell?, k]
end Go.Proofs.YtccjeipkljdhdaaGreatDoor

namespace Go.Proofs.YtccjeipkljdhdaaGreatDoor
open Go.RowKit
set_option linter.unusedVariables false
set_option linter.unusedSimpArgs false
end Go.Proofs.YtccjeipkljdhdaaGreatDoor

namespace Go.Proofs.YtccjeipkljdhdaaGreatDoor
open Go.RowKit
set_option linter.unusedVariables false
set_option linter.unusedSimpArgs false
theorem own_cellsP {W : World} {B g k m c : Nat} {T : TypeId} {n : Nat} {xs : List Value} (h : W.ownsRow B T k (.slice (some ⟨g, 0, none⟩) m c) n xs) (j : Nat) (u : Value) (hj : xs[j]? = some u) : W.cell? ⟨g, j, none⟩ = some u := by
  have := h.cells (g := g) rfl j u hj
  rw [Go.Addr.add_lit, Nat.zero_add] at this
  exact this
theorem intsP_at (l : List Int) (m : List Value) (i : Nat) (h : i < l.length) : (intsP l ++ m)[i]? = some (.int .i64 (l.getD i 0)) := by
  rw [List.getElem?_append_left (by simpa [intsP] using h)]
  simp [intsP, List.getD, h]
end Go.Proofs.YtccjeipkljdhdaaGreatDoor

namespace Go.Proofs.YtccjeipkljdhdaaGreatDoor.Cal

/-- 1 in a leap year, else 0. -/
def lp (y : Int) : Int := if y % 4 = 0 ∧ (¬ y % 100 = 0 ∨ y % 400 = 0) then 1 else 0
/-- A month's length (1 to 12). -/
def len (y m : Int) : Int := if m = 2 then 28 + lp y else if m = 4 ∨ m = 6 ∨ m = 9 ∨ m = 11 then 30 else 31
/-- The number of a year's first day. -/
def ys (y : Int) : Int := 365 * (y - 1900) + ((y - 1) / 4 - (y - 1) / 100 + (y - 1) / 400) - 460
/-- The days of a year ahead of a month. -/
def cum (y m : Int) : Int :=
  if m ≤ 1 then 0 else if m = 2 then 31 else (if m = 3 then 59 else if m = 4 then 90 else if m = 5 then 120 else if m = 6 then 151 else if m = 7 then 181 else if m = 8 then 212
    else if m = 9 then 243 else if m = 10 then 273 else if m = 11 then 304 else if m = 12 then 334 else 365) + lp y
def num (y m d : Int) : Int := ys y + cum y m + d - 1

end Go.Proofs.YtccjeipkljdhdaaGreatDoor.Cal

namespace Go.Proofs.YtccjeipkljdhdaaGreatDoor
namespace Lx
set_option linter.unusedVariables false
set_option linter.unusedSimpArgs false

abbrev L := List UInt8
def smN (c : Nat) : Bool := decide (97 ≤ c) && decide (c ≤ 122)
def cpN (c : Nat) : Bool := decide (65 ≤ c) && decide (c ≤ 90)
def dgN (c : Nat) : Bool := decide (48 ≤ c) && decide (c ≤ 57)
def rnN (c : Nat) : Bool := smN c || cpN c || dgN c || decide (c = 95)
def fitN (c f : Nat) : Bool := if f = 48 then dgN c else decide (c = f)
def form : List Nat := [48, 48, 48, 48, 45, 48, 48, 45, 48, 48]
/-- Begins with the form, and then no byte of a run. -/
def fits : List Nat → L → Bool
  | [], [] => true
  | [], c :: _ => !rnN c.toNat
  | _ :: _, [] => false
  | f :: fs, c :: r => fitN c.toNat f && fits fs r
def run (r : L) : L := r.takeWhile (fun c => rnN c.toNat)
structure Tok where
  k : Int
  t : L
  a : Int
  num : Int
  y : Int
  m : Int
  d : Int
  n : Int
  u : Int
  deriving DecidableEq
/-- A name's byte. -/
def nmN (p : Nat → Bool) (c : Nat) : Bool := p c || dgN c || decide (c = 95)
def nameI (p : Nat → Bool) (r : L) : Nat := (r.takeWhile (fun c => nmN p c.toNat)).length
def nameE (p : Nat → Bool) (r : L) : Nat × Int := if nameI p r < r.length then (nameI p r, 61) else if 31 < r.length then (0, 6) else (0, 0)
theorem take_len (p : UInt8 → Bool) (r : L) : (r.takeWhile p).length ≤ r.length := (List.takeWhile_prefix p).length_le
theorem run_len (r : L) : (run r).length ≤ r.length := take_len _ r
theorem rn_dg {c : Nat} (h : dgN c = true) : rnN c = true := by unfold rnN; rw [h]; simp
theorem rn_sm {c : Nat} (h : smN c = true) : rnN c = true := by unfold rnN; rw [h]; simp
theorem rn_cp {c : Nat} (h : cpN c = true) : rnN c = true := by unfold rnN; rw [h]; simp
theorem take_eq (p : UInt8 → Bool) (r : L) : r.takeWhile p = r.take (r.takeWhile p).length := (List.prefix_iff_eq_take.1 (List.takeWhile_prefix p))
theorem run_eq (r : L) : run r = r.take (run r).length := take_eq _ r
end Lx
end Go.Proofs.YtccjeipkljdhdaaGreatDoor

namespace Go.Proofs.YtccjeipkljdhdaaGreatDoor
open Go.RowKit Lx
set_option linter.unusedVariables false
set_option linter.unusedSimpArgs false

theorem smN_no1 {c : Nat} (h : ¬ 97 ≤ c) : smN c = false := by unfold smN; rw [decide_eq_false h]; rfl
theorem smN_at {c : Nat} (h : 97 ≤ c) : smN c = decide (c ≤ 122) := by unfold smN; rw [decide_eq_true h]; rfl
theorem cpN_no1 {c : Nat} (h : ¬ 65 ≤ c) : cpN c = false := by unfold cpN; rw [decide_eq_false h]; rfl
theorem cpN_at {c : Nat} (h : 65 ≤ c) : cpN c = decide (c ≤ 90) := by unfold cpN; rw [decide_eq_true h]; rfl
theorem isCapital_any (c : Nat) (w : World) : Calls Tryz.prog 105 #[.int .u8 (c : Int)] w fun e w' => e = .returned (.bool (cpN c)) ∧ w' = w := by
  by_cases h1 : 65 ≤ c
  · have h1' : (65 : Int) ≤ (c : Int) := by omega
    by_cases h2 : c ≤ 90
    · have h2' : (c : Int) ≤ 90 := by omega
      rw [cpN_at h1, decide_eq_true h2]
      clear h1 h2
      go_enter Tryz.func105, Tryz.ntmps105
      go_wp2
      go_ret
      exact ⟨rfl, rfl⟩
    · have h2' : ¬ (c : Int) ≤ 90 := by omega
      rw [cpN_at h1, decide_eq_false h2]
      clear h1 h2
      go_enter Tryz.func105, Tryz.ntmps105
      go_wp2
      go_ret
      exact ⟨rfl, rfl⟩
  · have h1' : decide ((65 : Int) ≤ (c : Int)) = false := decide_eq_false (by omega)
    rw [cpN_no1 h1]
    clear h1
    go_enter Tryz.func105, Tryz.ntmps105
    go_wp2
    go_ret
    exact ⟨rfl, rfl⟩
theorem dgN_no1 {c : Nat} (h : ¬ 48 ≤ c) : dgN c = false := by unfold dgN; rw [decide_eq_false h]; rfl
theorem dgN_at {c : Nat} (h : 48 ≤ c) : dgN c = decide (c ≤ 57) := by unfold dgN; rw [decide_eq_true h]; rfl
theorem isDigit_any (c : Nat) (w : World) : Calls Tryz.prog 135 #[.int .u8 (c : Int)] w fun e w' => e = .returned (.bool (dgN c)) ∧ w' = w := by
  by_cases h1 : 48 ≤ c
  · have h1' : (48 : Int) ≤ (c : Int) := by omega
    by_cases h2 : c ≤ 57
    · have h2' : (c : Int) ≤ 57 := by omega
      rw [dgN_at h1, decide_eq_true h2]
      clear h1 h2
      go_enter Tryz.func135, Tryz.ntmps135
      go_wp2
      go_ret
      exact ⟨rfl, rfl⟩
    · have h2' : ¬ (c : Int) ≤ 57 := by omega
      rw [dgN_at h1, decide_eq_false h2]
      clear h1 h2
      go_enter Tryz.func135, Tryz.ntmps135
      go_wp2
      go_ret
      exact ⟨rfl, rfl⟩
  · have h1' : decide ((48 : Int) ≤ (c : Int)) = false := decide_eq_false (by omega)
    rw [dgN_no1 h1]
    clear h1
    go_enter Tryz.func135, Tryz.ntmps135
    go_wp2
    go_ret
    exact ⟨rfl, rfl⟩
theorem castI {c k : Nat} (h : ¬ c = k) : ¬ (c : Int) = (k : Int) := by omega
end Go.Proofs.YtccjeipkljdhdaaGreatDoor

namespace Go.Proofs.YtccjeipkljdhdaaGreatDoor
namespace Lx
set_option linter.unusedVariables false
set_option linter.unusedSimpArgs false

def nthN (r : L) (i : Nat) : Nat := (r.getD i 0).toNat
/-- A run does not go on over the place k. -/
def Bd (r : L) (k : Nat) : Prop := k < r.length → 0 < k → rnN (nthN r (k - 1)) = true → rnN (nthN r k) = false
theorem Bd.drop {r : L} {n k : Nat} (h : Bd (r.drop n) k) (hk : 0 < k) : Bd r (n + k) := by
  intro h1 h2 h3
  have e : ∀ i, nthN (r.drop n) i = nthN r (n + i) := fun i => by simp [nthN, List.getD]
  have := h (by rw [List.length_drop]; omega) hk (by rw [e, show n + (k - 1) = n + k - 1 by omega]; exact h3)
  rwa [e] at this
theorem run_in {r : L} {i : Nat} (h : i < (run r).length) : rnN (nthN r i) = true := by
  have hl := run_len r
  have hm : (run r)[i] ∈ run r := List.getElem_mem h
  have h1 : rnN ((run r)[i]).toNat = true := by
    have : ∀ (p : UInt8 → Bool) (l : L) (x : UInt8), x ∈ l.takeWhile p → p x = true := by
      intro p l
      induction l with
      | nil => intro x hx; simp at hx
      | cons c l ih =>
        intro x hx
        rw [List.takeWhile_cons] at hx
        split at hx
        · rcases List.mem_cons.1 hx with rfl | hx
          · assumption
          · exact ih x hx
        · simp at hx
    exact this (fun c => rnN c.toNat) r _ hm
  have e : (run r)[i] = r[i]'(by omega) := by
    have := run_eq r
    have h2 : (run r)[i]? = (r.take (run r).length)[i]? := congrArg (fun l : L => l[i]?) this
    rw [List.getElem?_take_of_lt h, List.getElem?_eq_getElem h, List.getElem?_eq_getElem (show i < r.length by omega)] at h2
    injection h2
  rw [e] at h1
  simpa [nthN, List.getD, show i < r.length by omega] using h1
end Lx
end Go.Proofs.YtccjeipkljdhdaaGreatDoor

namespace Go.Proofs.YtccjeipkljdhdaaGreatDoor
open Go.RowKit Lx
set_option linter.unusedVariables false
set_option linter.unusedSimpArgs false

def lst (s : ByteArray) : L := s.data.toList
def bs (l : L) : ByteArray := ⟨l.toArray⟩
theorem lst_bs (l : L) : lst (bs l) = l := by simp [lst, bs]
theorem bs_lst (s : ByteArray) : bs (lst s) = s := by obtain ⟨⟨l⟩⟩ := s; rfl
theorem lst_len (s : ByteArray) : (lst s).length = s.size := by
  show s.data.toList.length = s.size
  rw [Array.length_toList]; rfl
theorem nth_lst {s : ByteArray} {k : Nat} (h : k < s.size) : nthN (lst s) k = s[k].toNat := by
  have h' : k < s.data.toList.length := by rw [Array.length_toList]; exact h
  have : (lst s).getD k 0 = s[k] := by
    unfold lst
    rw [List.getD_eq_getElem?_getD, List.getElem?_eq_getElem h', Option.getD_some]
    rfl
  unfold nthN; rw [this]
theorem takeW_at (p : UInt8 → Bool) : ∀ (l : L) (k : Nat), (∀ i, i < k → p (l.getD i 0) = true) → k ≤ l.length → (k < l.length → p (l.getD k 0) = false) → l.takeWhile p = l.take k
  | [], k, _, _, _ => by simp
  | c :: l, 0, _, _, h => by have := h (by simp); simp at this; simp [this]
  | c :: l, k + 1, h1, h2, h3 => by
    have h0 := h1 0 (by omega)
    simp at h0
    simp only [List.takeWhile_cons, h0, if_true, List.take_succ_cons]
    rw [takeW_at p l k (fun i hi => by simpa using h1 (i + 1) (by omega)) (by simpa using h2) (fun hk => by simpa using h3 (by simpa using hk))]
theorem run_at {l : L} {k : Nat} (h : ∀ i, i < k → rnN (nthN l i) = true) (hk : k ≤ l.length) (he : k < l.length → rnN (nthN l k) = false) : run l = l.take k := takeW_at _ l k h hk he
theorem nameI_at {p : Nat → Bool} {l : L} {k : Nat} (h : ∀ i, i < k → nmN p (nthN l i) = true) (hk : k ≤ l.length) (he : k < l.length → nmN p (nthN l k) = false) : nameI p l = k := by
  unfold nameI
  rw [takeW_at (fun c => nmN p c.toNat) l k h hk he, List.length_take]
  omega
def intV (t : Value) : Nat := match t with | .int _ z => z.toNat | _ => 0

end Go.Proofs.YtccjeipkljdhdaaGreatDoor
