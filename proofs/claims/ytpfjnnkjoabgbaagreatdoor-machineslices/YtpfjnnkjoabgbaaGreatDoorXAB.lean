import Derived.Test.YtpfjnnkjoabgbaaGreatDoorXAA
import Derived.Test.YtpfjnnkjoabgbaaGreatDoorRows
import Derived.WalkKit
import Derived.WalkSpells
import Derived.BigCall
import Derived.BigGuard
import Derived.BigQuiet
import Derived.Deep.QuietTactic
import Derived.Lib.Hide
import Derived.Lib.Strings
import Derived.Deep.RegionHeld3
import Derived.Laws.AppendOwn
import Derived.Laws.AppendOwnNone
import Derived.Laws.OwnMore
import Derived.Laws.MakeOwn
import Derived.Maps.AppendAt
import Derived.Deep.AppendLies
import Derived.Deep.RegionLaw
import Derived.Deep.Cut
import Derived.Deep.CutRange
import Derived.Deep.DeepCutAuto
import Derived.OwnWalk
import Derived.Laws.Cover3
namespace Go.Proofs.YtpfjnnkjoabgbaaGreatDoor
open Go.ChangeShapes Go.WideShapes Go.ChangeAt Go.RowKit Go.Deep
set_option linter.unusedVariables false
set_option linter.unusedSimpArgs false

/-- A day's segment: its day, its code; where that lies. -/
structure Sg where
  day : Int
  ca : Option Addr
  cc : Nat
  code : List In
  deriving Inhabited
def Sg.cs (s : Sg) : List Value := [.int .i64 s.day, .slice s.ca s.code.length s.cc]
/-- A program: its lists and numbers; where the lists lie. -/
structure Pg where
  na : Option Addr
  nc : Nat
  names : List ByteArray
  ua : Option Addr
  uc : Nat
  curs : List ByteArray
  pa : Option Addr
  pc : Nat
  pool : List Int
  hor : Int
  cells : Int
  slots : Int
  stack : Int
  da : Option Addr
  dc : Nat
  days : List Sg
  deriving Inhabited
def Pg.cs (p : Pg) : List Value := [.slice p.na p.names.length p.nc, .slice p.ua p.curs.length p.uc, .slice p.pa p.pool.length p.pc, .int .i64 p.hor, .int .i64 p.cells, .int .i64 p.slots, .int .i64 p.stack, .slice p.da p.days.length p.dc]
def icell (i : In) : List Value := [.int .i64 i.o, .int .i64 i.a, .int .i64 i.b]
/-- A list of instructions, with its bounds. -/
def IR (w : World) (a : Option Addr) (n cap : Nat) (l : List In) : Prop :=
  Hd a n cap ∧ l.length = n ∧ n ≤ 5864062014634 ∧ (∀ i ∈ l, i64 i.o ∧ i64 i.a ∧ i64 i.b) ∧ Row w a n 3 (fun i => icell (l.getD i default))
theorem IR.later {w w' : World} {a n c l} (h : IR w a n c l) (b : Below w.heap.size w w') : IR w' a n c l := ⟨h.1, h.2.1, h.2.2.1, h.2.2.2.1, h.2.2.2.2.later b⟩
/-- A list of numbers, with its bounds. -/
def NR (w : World) (a : Option Addr) (n cap : Nat) (l : List Int) : Prop :=
  Hd a n cap ∧ l.length = n ∧ n ≤ 17592186043904 ∧ (∀ i ∈ l, i64 i) ∧ Row w a n 1 (fun i => [.int .i64 (l.getD i 0)])
theorem NR.later {w w' : World} {a n c l} (h : NR w a n c l) (b : Below w.heap.size w w') : NR w' a n c l := ⟨h.1, h.2.1, h.2.2.1, h.2.2.2.1, h.2.2.2.2.later b⟩
def GV (w : World) (s : Sg) : Prop := i64 s.day ∧ IR w s.ca s.code.length s.cc s.code
def GL (w : World) (a : Option Addr) (n cap : Nat) (l : List Sg) : Prop :=
  Hd a n cap ∧ l.length = n ∧ n ≤ 4398046510976 ∧ (∀ s ∈ l, GV w s) ∧ Row w a n 2 (fun i => (l.getD i default).cs)
theorem GV.later {w w' : World} {s : Sg} (h : GV w s) (b : Below w.heap.size w w') : GV w' s := ⟨h.1, h.2.later b⟩
theorem GL.later {w w' : World} {a n c l} (h : GL w a n c l) (b : Below w.heap.size w w') : GL w' a n c l := ⟨h.1, h.2.1, h.2.2.1, fun s hs => (h.2.2.2.1 s hs).later b, h.2.2.2.2.later b⟩
structure PV (w : World) (p : Pg) : Prop where
  names : SR w p.na p.names.length p.nc p.names
  curs : SR w p.ua p.curs.length p.uc p.curs
  pool : NR w p.pa p.pool.length p.pc p.pool
  hor : i64 p.hor
  cells : i64 p.cells
  slots : i64 p.slots
  stack : i64 p.stack
  days : GL w p.da p.days.length p.dc p.days
theorem PV.later {w w' : World} {p : Pg} (h : PV w p) (b : Below w.heap.size w w') : PV w' p := ⟨h.names.later b, h.curs.later b, h.pool.later b, h.hor, h.cells, h.slots, h.stack, h.days.later b⟩
theorem Row.congrP {w : World} {a : Option Addr} {n k : Nat} {V V' : Nat → List Value} (h : Row w a n k V) (e : ∀ i, i < n → V i = V' i) : Row w a n k V' := by
  rcases h with h | ⟨b, o, h1, h2, h3⟩
  · exact .inl h
  · exact .inr ⟨b, o, h1, h2, fun i hi j hj => by rw [← e i hi]; exact h3 i hi j hj⟩
/-- The types of a program. -/
structure PT (P : Program) where
  I : TypeId
  hI : P.underlying I = some (.int .i64)
  cI : P.cellsOf I = 1
  bI : P.bytesOf I = 8
  SI : TypeId
  hSI : P.underlying SI = some (.slice I)
  cSI : P.cellsOf SI = 1
  S : TypeId
  hS : P.underlying S = some .string
  cS : P.cellsOf S = 1
  bS : P.bytesOf S = 16
  SS : TypeId
  hSS : P.underlying SS = some (.slice S)
  cSS : P.cellsOf SS = 1
  J : TypeId
  fJ : Array Field
  hJ : P.underlying J = some (.struct fJ)
  lJ : fJ.toList.map (fun f => (f.type, f.offset)) = [(I, 0), (I, 1), (I, 2)]
  cJ : P.cellsOf J = 3
  bJ : P.bytesOf J = 24
  SJ : TypeId
  hSJ : P.underlying SJ = some (.slice J)
  cSJ : P.cellsOf SJ = 1
  G : TypeId
  fG : Array Field
  hG : P.underlying G = some (.struct fG)
  lG : fG.toList.map (fun f => (f.type, f.offset)) = [(I, 0), (SJ, 1)]
  cG : P.cellsOf G = 2
  bG : P.bytesOf G = 32
  SG : TypeId
  hSG : P.underlying SG = some (.slice G)
  cSG : P.cellsOf SG = 1
  Q : TypeId
  fQ : Array Field
  hQ : P.underlying Q = some (.struct fQ)
  lQ : fQ.toList.map (fun f => (f.type, f.offset)) = [(SS, 0), (SS, 1), (SI, 2), (I, 3), (I, 4), (I, 5), (I, 6), (SG, 7)]
  cQ : P.cellsOf Q = 8
section
variable {H : Type} {enc : TypeId × Value → H} {P : Program} {W : World} {base : Nat} {sp : Nat → Bool} {held : Bool}
theorem pgetD_map_range {α : Type} [Inhabited α] {n i : Nat} {f : Nat → α} (h : i < n) : ((List.range n).map f).getD i default = f i := by simp [h]
theorem prd_fields {t : TypeId} {fs : Array Field} {L : List (TypeId × Nat)} {fuel : Nat} {cs : List Value} (ht : P.underlying t = some (.struct fs)) (hfs : fs.toList.map (fun f => (f.type, f.offset)) = L) (h : Rd enc P W base sp held fuel t cs) :
    ∃ n, fuel = n + 1 ∧ cs.length = P.cellsOf t ∧ ∀ (i : Nat) (p : TypeId × Nat), L[i]? = some p → Rd enc P W base sp held n p.1 ((cs.drop p.2).take (P.cellsOf p.1)) := by
  obtain ⟨n, h1, h2, h3⟩ := rd_struct ht h
  refine ⟨n, h1, h2, fun i p hp => ?_⟩
  rw [← hfs, List.getElem?_map] at hp
  obtain ⟨f, hf, rfl⟩ := Option.map_eq_some_iff.1 hp
  exact h3 i f (by simpa using hf)
/-- A list of things of one kind. -/
theorem rd_list {α : Type} [Inhabited α] {SE E k bsz : Nat} (hSE : P.underlying SE = some (.slice E)) (cE : P.cellsOf E = k) (bE : P.bytesOf E = bsz) (hk : 0 < k) {fuel : Nat} {cs : List Value} (C : α → List Value) (Ok : α → Prop)
    (one : ∀ n cs, Rd enc P W base sp held n E cs → ∃ x, cs = C x ∧ Ok x) (h : Rd enc P W base sp held fuel SE cs) :
    ∃ a cap, ∃ l : List α, cs = [.slice a l.length cap] ∧ Hd a l.length cap ∧ l.length * bsz ≤ reachBytes ∧ (∀ x ∈ l, Ok x) ∧ Row W a l.length k (fun i => C (l.getD i default)) := by
  rcases rd_slice hSE h with rfl | ⟨y, len, cap, n, rfl, hn, hl, hm, hz, hx⟩
  · exact ⟨none, 0, [], rfl, ⟨fun _ => ⟨rfl, rfl⟩, Nat.le_refl _, by unfold maxLen; omega⟩, by simp, by simp, .inl rfl⟩
  · obtain ⟨V, hr, hv⟩ := rd_row cE hk hx
    obtain ⟨F, hF⟩ := choose_lt (α := α) (n := len) (p := fun i x => V i = C x ∧ Ok x) (fun i hi => one n _ (hv i hi).2)
    rw [bE] at hz
    refine ⟨some y, cap, (List.range len).map F, by simp, ⟨(fun e => by cases e), by simpa using hl, hm⟩, by simpa using hz, ?_, ?_⟩
    · intro x hx
      obtain ⟨i, hi, rfl⟩ := List.mem_map.1 hx
      exact (hF i (by simpa using hi)).2
    · have : Row W (some y) len k (fun i => C (((List.range len).map F).getD i default)) := Row.congrP hr (fun i hi => by rw [pgetD_map_range hi]; exact (hF i hi).1)
      simpa using this
theorem rd_texts (T : PT P) {fuel : Nat} {cs : List Value} (h : Rd enc P W base sp held fuel T.SS cs) : ∃ a cap l, cs = [.slice a (List.length l) cap] ∧ SR W a l.length cap l := by
  obtain ⟨a, cap, l, h1, h2, h3, h4, h5⟩ := rd_list (α := ByteArray) T.hSS T.cS T.bS (by omega) (fun s => [.string s]) (fun s => s.size ≤ 140737488351232) (fun n cs h => rd_string T.hS h) h
  unfold reachBytes at h3
  exact ⟨a, cap, l, h1, h2, rfl, by omega, h4, h5⟩
theorem rd_ints (T : PT P) {fuel : Nat} {cs : List Value} (h : Rd enc P W base sp held fuel T.SI cs) : ∃ a cap l, cs = [.slice a (List.length l) cap] ∧ NR W a l.length cap l := by
  obtain ⟨a, cap, l, h1, h2, h3, h4, h5⟩ := rd_list (α := Int) T.hSI T.cI T.bI (by omega) (fun s => [.int .i64 s]) i64 (fun n cs h => rd_int T.hI h) h
  unfold reachBytes at h3
  exact ⟨a, cap, l, h1, h2, rfl, by omega, h4, h5⟩
theorem rd_instrs (T : PT P) {fuel : Nat} {cs : List Value} (h : Rd enc P W base sp held fuel T.SJ cs) : ∃ a cap l, cs = [.slice a (List.length l) cap] ∧ IR W a l.length cap l := by
  obtain ⟨a, cap, l, h1, h2, h3, h4, h5⟩ := rd_list (α := In) T.hSJ T.cJ T.bJ (by omega) icell (fun i => i64 i.o ∧ i64 i.a ∧ i64 i.b) (fun n cs h => by
    obtain ⟨m, _, hl, hf⟩ := prd_fields T.hJ T.lJ h
    rw [T.cJ] at hl
    match cs, hl with
    | [c0, c1, c2], _ =>
      have k0 := hf 0 _ rfl
      have k1 := hf 1 _ rfl
      have k2 := hf 2 _ rfl
      simp only [T.cI] at k0 k1 k2
      obtain ⟨z0, r0, w0⟩ := rd_int T.hI k0
      obtain ⟨z1, r1, w1⟩ := rd_int T.hI k1
      obtain ⟨z2, r2, w2⟩ := rd_int T.hI k2
      simp at r0 r1 r2
      subst r0 r1 r2
      exact ⟨⟨z0, z1, z2⟩, rfl, w0, w1, w2⟩) h
  unfold reachBytes at h3
  exact ⟨a, cap, l, h1, h2, rfl, by omega, h4, h5⟩
theorem rd_segs (T : PT P) {fuel : Nat} {cs : List Value} (h : Rd enc P W base sp held fuel T.SG cs) : ∃ a cap l, cs = [.slice a (List.length l) cap] ∧ GL W a l.length cap l := by
  obtain ⟨a, cap, l, h1, h2, h3, h4, h5⟩ := rd_list (α := Sg) T.hSG T.cG T.bG (by omega) Sg.cs (GV W) (fun n cs h => by
    obtain ⟨m, _, hl, hf⟩ := prd_fields T.hG T.lG h
    rw [T.cG] at hl
    match cs, hl with
    | [c0, c1], _ =>
      have k0 := hf 0 _ rfl
      have k1 := hf 1 _ rfl
      simp only [T.cI, T.cSJ] at k0 k1
      obtain ⟨z0, r0, w0⟩ := rd_int T.hI k0
      obtain ⟨a, cap, l, r1, w1⟩ := rd_instrs T k1
      simp at r0 r1
      subst r0 r1
      exact ⟨⟨z0, a, cap, l⟩, rfl, w0, w1⟩) h
  unfold reachBytes at h3
  exact ⟨a, cap, l, h1, h2, rfl, by omega, h4, h5⟩
theorem open_pg {r : Reach} {b0 : Nat} (T : PT P) {v : Value} {d : DataW H} {ps : List MemPlace} (hok : Value.okWide P W r b0 T.Q v) (h : DataW.Trod enc P W base sp held T.Q v d ps) (hz : ∀ n ∈ d.weights P T.Q, n ≤ reachBytes) :
    ∃ p : Pg, v = .agg p.cs.toArray ∧ PV W p := by
  obtain ⟨cs, rfl, hsz⟩ := okWide_struct T.hQ hok
  obtain ⟨fuel, hf⟩ := h
  obtain ⟨l⟩ := cs
  have hr : Rd enc P W base sp held fuel T.Q l := ⟨_, hf, hz⟩
  clear hf hz
  obtain ⟨m, _, hl, hf⟩ := prd_fields (enc := enc) (base := base) (sp := sp) (held := held) T.hQ T.lQ hr
  rw [T.cQ] at hl
  match l, hl with
  | [c0, c1, c2, c3, c4, c5, c6, c7], _ =>
    have k0 := hf 0 _ rfl
    have k1 := hf 1 _ rfl
    have k2 := hf 2 _ rfl
    have k3 := hf 3 _ rfl
    have k4 := hf 4 _ rfl
    have k5 := hf 5 _ rfl
    have k6 := hf 6 _ rfl
    have k7 := hf 7 _ rfl
    simp only [T.cI, T.cSS, T.cSI, T.cSG] at k0 k1 k2 k3 k4 k5 k6 k7
    obtain ⟨na, nc, names, r0, w0⟩ := rd_texts T k0
    obtain ⟨ua, uc, curs, r1, w1⟩ := rd_texts T k1
    obtain ⟨pa, pc, pool, r2, w2⟩ := rd_ints T k2
    obtain ⟨z3, r3, w3⟩ := rd_int T.hI k3
    obtain ⟨z4, r4, w4⟩ := rd_int T.hI k4
    obtain ⟨z5, r5, w5⟩ := rd_int T.hI k5
    obtain ⟨z6, r6, w6⟩ := rd_int T.hI k6
    obtain ⟨da, dc, days, r7, w7⟩ := rd_segs T k7
    simp at r0 r1 r2 r3 r4 r5 r6 r7
    subst r0 r1 r2 r3 r4 r5 r6 r7
    exact ⟨⟨na, nc, names, ua, uc, curs, pa, pc, pool, z3, z4, z5, z6, da, dc, days⟩, rfl, ⟨w0, w1, w2, w3, w4, w5, w6, w7⟩⟩
end
end Go.Proofs.YtpfjnnkjoabgbaaGreatDoor

namespace Go.Proofs.YtpfjnnkjoabgbaaGreatDoor
open Go.RowKit
set_option linter.unusedVariables false
set_option linter.unusedSimpArgs false

theorem list_eqP {α : Type} {d : α} {xs ys : List α} (h : xs.length = ys.length) (e : ∀ i, i < xs.length → xs.getD i d = ys.getD i d) : xs = ys := by
  apply List.ext_getElem h
  intro i h1 h2
  have := e i h1
  simpa [List.getD, h1, h2] using this
theorem retBP {b c : Bool} (h : b = c) : Ending.returned (.bool b) = Ending.returned (.bool c) := by rw [h]
theorem toList_oneP {x y : ByteArray} (h : x.toList = y.toList) : x = y := by
  rw [Lib.toList_data, Lib.toList_data] at h
  obtain ⟨⟨x⟩⟩ := x; obtain ⟨⟨y⟩⟩ := y
  simp at h; rw [h]
theorem str_neP {x y : ByteArray} (h : x ≠ y) : (x.toList == y.toList) = false := by
  rw [beq_eq_false_iff_ne]
  exact fun e => h (toList_oneP e)
theorem Row.twoP {w : World} {a a' : Option Addr} {n k : Nat} {V V' : Nat → List Value} (h : Row w a n k V) (h' : Row w a' n k V') : 0 < n → ∃ x o y p, a = some ⟨x, o, none⟩ ∧ a' = some ⟨y, p, none⟩ ∧ ∀ i, i < n → ∀ j, j < k → w.cell? ⟨x, o + i * k + j, none⟩ = some ((V i).getD j default) ∧ w.cell? ⟨y, p + i * k + j, none⟩ = some ((V' i).getD j default) := by
  intro h0
  rcases h with h | ⟨x, o, e, _, hc⟩
  · omega
  rcases h' with h' | ⟨y, p, e', _, hc'⟩
  · omega
  exact ⟨x, o, y, p, e, e', fun i hi j hj => ⟨hc i hi j hj, hc' i hi j hj⟩⟩
end Go.Proofs.YtpfjnnkjoabgbaaGreatDoor

namespace Go.Proofs.YtpfjnnkjoabgbaaGreatDoor
open Go.RowKit
set_option linter.unusedVariables false
set_option linter.unusedSimpArgs false
theorem allocBP (W : World) (o : Obj) : Below W.heap.size W (W.alloc o) := (Below.refl _ _).alloc (Nat.le_refl _) _
theorem drewBP (W : World) (q : Nat) : Below W.heap.size W (W.drewN q) := ⟨rfl, rfl, rfl, Nat.le_refl _, fun _ _ => rfl⟩
theorem alloc2 (W : World) (o o' : Obj) : Below W.heap.size W ((W.alloc o).alloc o') := ((Below.refl _ _).alloc (Nat.le_refl _) _).alloc (by simp) _
theorem cell_keepA {W : World} {b o : Nat} {v : Value} (h : W.cell? ⟨b, o, none⟩ = some v) (ob : Obj) : (W.alloc ob).cell? ⟨b, o, none⟩ = some v := by
  obtain ⟨b', o', e, hb⟩ := taddr_of h
  injection e with e1 e2
  subst e1 e2
  rw [(allocBP W ob).cell (p := ⟨b, o, none⟩) hb]
  exact h
def Sg.key (s : Sg) : Int × List In := (s.day, s.code)
theorem keys_eq {l l' : List Sg} (h : l.length = l'.length) (e : ∀ i, i < l.length → (l.getD i default).key = (l'.getD i default).key) : l.map Sg.key = l'.map Sg.key := by
  apply List.ext_getElem (by simpa using h)
  intro i h1 h2
  have := e i (by simpa using h1)
  simp at h1 h2
  simpa [List.getD, h1, h2] using this
theorem keys_at {l l' : List Sg} (h : l.map Sg.key = l'.map Sg.key) (i : Nat) : (l.getD i default).key = (l'.getD i default).key := by
  have := congrArg (fun m => m[i]?) h
  simp only [List.getElem?_map] at this
  simp only [List.getD]
  cases h1 : l[i]? <;> cases h2 : l'[i]? <;> rw [h1, h2] at this <;> simp at this ⊢
  exact this
theorem sg_mem {l : List Sg} {i : Nat} (h : i < l.length) : l.getD i default ∈ l := by
  rw [List.getD_eq_getElem?_getD, List.getElem?_eq_getElem h, Option.getD_some]; exact List.getElem_mem h
end Go.Proofs.YtpfjnnkjoabgbaaGreatDoor

namespace Go.Proofs.YtpfjnnkjoabgbaaGreatDoor
open Go.RowKit
set_option linter.unusedVariables false
set_option linter.unusedSimpArgs false
/-- What a program says, without where it lies. -/
def Pg.key (p : Pg) : List ByteArray × List ByteArray × List Int × Int × Int × Int × Int × List (Int × List In) := (p.names, p.curs, p.pool, p.hor, p.cells, p.slots, p.stack, p.days.map Sg.key)
noncomputable instance (p q : Pg) : Decidable (p.key = q.key) := Classical.propDecidable _
theorem key_eq {p q : Pg} (e0 : p.names = q.names) (e1 : p.curs = q.curs) (e2 : p.pool = q.pool) (e3 : p.hor = q.hor) (e4 : p.cells = q.cells) (e5 : p.slots = q.slots) (e6 : p.stack = q.stack) (e7 : p.days.map Sg.key = q.days.map Sg.key) : p.key = q.key := by
  unfold Pg.key; rw [e0, e1, e2, e3, e4, e5, e6, e7]
theorem key_of {p q : Pg} (h : p.key = q.key) : p.names = q.names ∧ p.curs = q.curs ∧ p.pool = q.pool ∧ p.hor = q.hor ∧ p.cells = q.cells ∧ p.slots = q.slots ∧ p.stack = q.stack ∧ p.days.map Sg.key = q.days.map Sg.key := by
  unfold Pg.key at h
  simp only [Prod.mk.injEq] at h
  exact h
def Pg.agg (p : Pg) : Value := .agg #[.slice p.na p.names.length p.nc, .slice p.ua p.curs.length p.uc, .slice p.pa p.pool.length p.pc, .int .i64 p.hor, .int .i64 p.cells, .int .i64 p.slots, .int .i64 p.stack, .slice p.da p.days.length p.dc]
def Pg.box (p : Pg) : Obj := .cells #[.slice p.na p.names.length p.nc, .slice p.ua p.curs.length p.uc, .slice p.pa p.pool.length p.pc, .int .i64 p.hor, .int .i64 p.cells, .int .i64 p.slots, .int .i64 p.stack, .slice p.da p.days.length p.dc] 26
end Go.Proofs.YtpfjnnkjoabgbaaGreatDoor

namespace Go.Proofs.YtpfjnnkjoabgbaaGreatDoor
open Go.RowKit
set_option linter.unusedVariables false
set_option linter.unusedSimpArgs false

theorem infoPS : (Tryz.prog.info? 9).map (fun i => (i.zero, i.size, i.bytes)) = some (some (.string ⟨#[]⟩), 1, 16) := by kernel_rfl
theorem infoPN : (Tryz.prog.info? 3).map (fun i => (i.zero, i.size, i.bytes)) = some (some (.int .i64 0), 1, 8) := by kernel_rfl
theorem infoPI : (Tryz.prog.info? 68).map (fun i => (i.zero, i.size, i.bytes)) = some (some (.agg #[.int .i64 0, .int .i64 0, .int .i64 0]), 3, 24) := by kernel_rfl
theorem infoPG : (Tryz.prog.info? 71).map (fun i => (i.zero, i.size, i.bytes)) = some (some (.agg #[.int .i64 0, .slice none 0 0]), 2, 32) := by kernel_rfl
/-- A block, whole. -/
def BkP (w : World) (b : Nat) (cs : Array Value) (t : TypeId) : Prop := w.heap[b]? = some (.cells cs t (0, 0))
theorem BkP.cell {w : World} {b : Nat} {cs : Array Value} {t : TypeId} (h : BkP w b cs t) (k : Nat) : w.cell? ⟨b, k, none⟩ = cs[k]? := by
  unfold BkP at h; simp [World.cell?, h]
theorem BkP.frozen {w : World} {b : Nat} {cs : Array Value} {t : TypeId} (h : BkP w b cs t) (k : Nat) : w.frozen? ⟨b, k, none⟩ = false := by
  unfold BkP at h; simp [World.frozen?, h]
theorem BkP.lt {w : World} {b : Nat} {cs : Array Value} {t : TypeId} (h : BkP w b cs t) : b < w.heap.size := (Array.getElem?_eq_some_iff.1 h).1
theorem BkP.grown {w w' : World} {b : Nat} {cs : Array Value} {t : TypeId} {r : Option Nat} (h : BkP w b cs t) (g : w.grownBy w' r) (hb : some b ≠ r) : BkP w' b cs t := (g.block b h.lt hb).trans h
theorem BkP.set {w : World} {b : Nat} {cs : Array Value} {t : TypeId} (h : BkP w b cs t) (k : Nat) (v : Value) (hk : k < cs.size) : BkP (w.setCell ⟨b, k, none⟩ v) b (cs.set k v) t := by
  unfold BkP at *
  simp only [World.setCell, Array.getElem?_modify, if_true, h, Option.map_some]
  simp [Array.set!, Array.setIfInBounds, hk]
theorem BkP.other {w : World} {b : Nat} {cs : Array Value} {t : TypeId} (h : BkP w b cs t) (p : Nat) (k : Nat) (v : Value) (hp : p ≠ b) : BkP (w.setCell ⟨p, k, none⟩ v) b cs t := by
  unfold BkP at *
  simp only [World.setCell, Array.getElem?_modify, if_neg hp, h]
/-- A row that lies between two places. -/
structure RF where
  lo : Nat
  hi : Nat
  T : TypeId
  k : Nat
  v : Value
  n : Nat
  xs : List Value
structure RF.at (r : RF) (W : World) : Prop where
  own : W.ownsRow r.lo r.T r.k r.v r.n r.xs
  hi : ∀ b, r.v.ownBlock = some b → b < r.hi
theorem row_farP {W W' : World} {B e s n : Nat} {v : Value} {xs : List Value} (h : W.ownsRow B e s v n xs) {r : Option Nat} (g : W.grownBy W' r) (hr : ∀ k q, r = some k → v.ownBlock = some q → k ≠ q) : W'.ownsRow B e s v n xs := by
  refine h.kept g ?_
  rcases hv : v.ownBlock with _ | q
  · exact .inl rfl
  · right
    intro e
    rcases r with _ | k
    · cases e
    · injection e with e
      exact hr k q rfl hv e.symm
theorem RF.at.grown {r : RF} {W W' : World} (h : r.at W) {x : Option Nat} (g : W.grownBy W' x) (hx : ∀ k, x = some k → k < r.lo ∨ r.hi ≤ k) : r.at W' :=
  ⟨row_farP h.own g (fun k q e e2 => by have := h.own.lt q e2; have := h.hi q e2; rcases hx k e with t | t <;> omega), h.hi⟩
def pz : Array Value := #[.slice none 0 0, .slice none 0 0, .slice none 0 0, .int .i64 0, .int .i64 0, .int .i64 0, .int .i64 0, .slice none 0 0]
def Pg.arr (p : Pg) : Array Value := #[.slice p.na p.names.length p.nc, .slice p.ua p.curs.length p.uc, .slice p.pa p.pool.length p.pc, .int .i64 p.hor, .int .i64 p.cells, .int .i64 p.slots, .int .i64 p.stack, .slice p.da p.days.length p.dc]
/-- What stands while a copy is made: the box of the program, that of the answer, that of the copy, the rows of the copy. -/
structure OS (w W : World) (p : Pg) (q : Array Value) (L : List RF) : Prop where
  bel : Below w.heap.size w W
  b0 : BkP W w.heap.size p.arr 26
  b1 : BkP W (w.heap.size + 1) pz 26
  b2 : BkP W (w.heap.size + 1 + 1) q 26
  rows : ∀ r ∈ L, r.at W ∧ w.heap.size + 3 ≤ r.lo ∧ r.hi ≤ W.heap.size
  sz : w.heap.size + 3 ≤ W.heap.size
  qs : q.size = 8
theorem OS.grown {w W W' : World} {p : Pg} {q : Array Value} {L : List RF} (h : OS w W p q L) {x : Option Nat} (g : W.grownBy W' x) (hx : ∀ k, x = some k → W.heap.size ≤ k) : OS w W' p q L :=
  ⟨h.bel.grown g h.bel.size (fun k e => Nat.le_trans h.bel.size (hx k e)), h.b0.grown g (fun e => by have := hx _ e.symm; have := h.b0.lt; omega), h.b1.grown g (fun e => by have := hx _ e.symm; have := h.b1.lt; omega), h.b2.grown g (fun e => by have := hx _ e.symm; have := h.b2.lt; omega),
    fun r hr => ⟨(h.rows r hr).1.grown g (fun k e => .inr (Nat.le_trans (h.rows r hr).2.2 (hx k e))), (h.rows r hr).2.1, Nat.le_trans (h.rows r hr).2.2 g.size⟩, Nat.le_trans h.sz g.size, h.qs⟩
theorem gr_below {W W' : World} (b : Below W.heap.size W W') (r : Option Nat) : W.grownBy W' r := ⟨b.os, b.tape, b.output, b.size, fun k hk _ => b.block k hk⟩
theorem OS.later {w W W' : World} {p : Pg} {q : Array Value} {L : List RF} (h : OS w W p q L) (b : Below W.heap.size W W') : OS w W' p q L := h.grown (gr_below b none) (fun k e => by cases e)
theorem drew1B (W : World) : Below W.heap.size W W.drew := (Below.refl _ _).drew
theorem OS.drew {w W : World} {p : Pg} {q : Array Value} {L : List RF} (h : OS w W p q L) : OS w W.drew p q L := h.later (drew1B W)
theorem OS.alloc {w W : World} {p : Pg} {q : Array Value} {L : List RF} (h : OS w W p q L) (o : Obj) : OS w (W.alloc o) p q L := h.later (allocBP W o)
theorem setCell_gr (W : World) (b j : Nat) (v : Value) : W.grownBy (W.setCell ⟨b, j, none⟩ v) (some b) := by
  refine ⟨rfl, rfl, rfl, by simp, fun i hi hn => ?_⟩
  have hp : ¬ b = i := fun e => hn (by rw [e])
  simp [World.setCell, Array.getElem?_modify, hp]
theorem OS.setQ {w W : World} {p : Pg} {q : Array Value} {L : List RF} (h : OS w W p q L) (j : Nat) (hj : j < q.size) (v : Value) : OS w (W.setCell ⟨w.heap.size + 1 + 1, j, none⟩ v) p (q.set j v) L :=
  ⟨h.bel.grown (setCell_gr W _ j v) h.bel.size (fun k e => by injection e with e; omega), h.b0.other _ _ _ (by omega), h.b1.other _ _ _ (by omega), h.b2.set j v hj,
    fun r hr => ⟨(h.rows r hr).1.grown (setCell_gr W _ j v) (fun k e => by injection e with e; have := (h.rows r hr).2.1; left; omega), (h.rows r hr).2.1, by simpa using (h.rows r hr).2.2⟩, by simpa using h.sz, by simpa using h.qs⟩
theorem OS.add {w W : World} {p : Pg} {q : Array Value} {L : List RF} (h : OS w W p q L) (r : RF) (hr : r.at W) (h1 : w.heap.size + 3 ≤ r.lo) (h2 : r.hi ≤ W.heap.size) : OS w W p q (r :: L) :=
  ⟨h.bel, h.b0, h.b1, h.b2, fun x hx => by
    rcases List.mem_cons.1 hx with rfl | q
    · exact ⟨hr, h1, h2⟩
    · exact h.rows x q, h.sz, h.qs⟩
theorem heapN (w : World) (o : Obj) : (w.alloc o).heap[w.heap.size]? = some o := by show (w.heap.push o)[w.heap.size]? = _; simp
theorem os_start (w : World) (p : Pg) : OS w (((w.alloc (.cells p.arr 26)).alloc (.cells pz 26)).alloc (.cells p.arr 26)) p p.arr [] := by
  have e1 : (w.alloc (.cells p.arr 26)).heap.size = w.heap.size + 1 := by simp
  have e2 : ((w.alloc (.cells p.arr 26)).alloc (.cells pz 26)).heap.size = w.heap.size + 1 + 1 := by simp
  have k0 : (w.alloc (.cells p.arr 26)).heap[w.heap.size]? = some (.cells p.arr 26) := heapN _ _
  have k1 : ((w.alloc (.cells p.arr 26)).alloc (.cells pz 26)).heap[w.heap.size + 1]? = some (.cells pz 26) := by have := heapN (w.alloc (.cells p.arr 26)) (.cells pz 26); rwa [e1] at this
  have k2 : (((w.alloc (.cells p.arr 26)).alloc (.cells pz 26)).alloc (.cells p.arr 26)).heap[w.heap.size + 1 + 1]? = some (.cells p.arr 26) := by have := heapN ((w.alloc (.cells p.arr 26)).alloc (.cells pz 26)) (.cells p.arr 26); rwa [e2] at this
  refine ⟨(alloc2 w _ _).alloc (by simp; omega) _, ?_, ?_, k2, by simp, by simp, rfl⟩
  · exact (Below.heap_alloc _ _ _ (by simp; omega)).trans ((Below.heap_alloc _ _ _ (by simp)).trans k0)
  · exact (Below.heap_alloc _ _ _ (by simp)).trans k1
/-- What an append with the room made ahead leaves. -/
theorem made_rowP (W : World) (B : Nat) (hB : B ≤ W.heap.size) (T : TypeId) (z : Array Value) (k c : Nat) (hz : z.size = k) (hk : 0 < k) (hc : c ≤ maxLen) : (W.alloc (.cells (madeCells z (c * k)) T)).ownsRow B T k (.slice (some ⟨W.heap.size, 0, none⟩) 0 c) 0 [] := by
  refine ⟨by rw [Nat.zero_mul]; rfl, .inr ⟨W.heap.size, c, madeCells z (c * k), rfl, hB, heapN _ _, Nat.zero_le _, hc, by simp [madeCells], by rw [Nat.zero_mul]; rfl⟩⟩
end Go.Proofs.YtpfjnnkjoabgbaaGreatDoor

namespace Go.Proofs.YtpfjnnkjoabgbaaGreatDoor
open Go.RowKit
set_option linter.unusedVariables false
set_option linter.unusedSimpArgs false

def bhV : Value := .string ⟨#[66, 101, 104, 105, 110, 100]⟩
def strsP (ss : List ByteArray) : List Value := ss.map Value.string
def intsP (l : List Int) : List Value := l.map (Value.int .i64)
def icsP (l : List In) : List Value := l.flatMap icell
theorem sr_news {W : World} {x : Addr} {n c : Nat} {ss : List ByteArray} (h : SR W (some x) n c ss) : ∀ j u, (strsP ss)[j]? = some u → W.cell? (x.add j) = some u := by
  obtain ⟨_, hl, _, _, hr⟩ := h
  intro j u hj
  have hjn : j < ss.length := by have := (List.getElem?_eq_some_iff.1 hj).1; simpa [strsP] using this
  rcases hr with q | ⟨b, o, e, _, hc⟩
  · omega
  · injection e with e
    subst e
    have h := hc j (by omega) 0 (by omega)
    rw [Go.Addr.add_lit]
    simp only [Nat.mul_one, Nat.add_zero, List.getD_cons_zero] at h
    rw [h]
    simp [strsP, hjn] at hj
    simp [List.getD, hjn, hj]
theorem nr_news {W : World} {x : Addr} {n c : Nat} {l : List Int} (h : NR W (some x) n c l) : ∀ j u, (intsP l)[j]? = some u → W.cell? (x.add j) = some u := by
  obtain ⟨_, hl, _, _, hr⟩ := h
  intro j u hj
  have hjn : j < l.length := by have := (List.getElem?_eq_some_iff.1 hj).1; simpa [intsP] using this
  rcases hr with q | ⟨b, o, e, _, hc⟩
  · omega
  · injection e with e
    subst e
    have h := hc j (by omega) 0 (by omega)
    rw [Go.Addr.add_lit]
    simp only [Nat.mul_one, Nat.add_zero, List.getD_cons_zero] at h
    rw [h]
    simp [intsP, hjn] at hj
    simp [List.getD, hjn, hj]
/-- An append of a list, in a region that draws. -/
theorem step_appG {ops : Array Oper} {o : Oper} {a : Act} {K : Act → World → Prop} {Q : Exit → Act → World → Prop} {E : Prop} (w : World) (hgd : o.guard = none) (s x : Operand) (t : TypeId)
    (ho : o.op = .call { callee := .builtin .append, args := #[s, x], argTypes := #[t, t] }) (B : Nat) (e : TypeId) (i0 : TypeInfo) (z : Value) (size bytes : Nat) (ht : Tryz.prog.underlying t = some (.slice e)) (hi : Tryz.prog.info? e = some i0) (hz : i0.zero = some z) (h4 : i0.size = size) (h5 : i0.bytes = bytes) (h6 : z.cells.size = size) (h7 : 0 < size)
    (v : Value) (n : Nat) (xs : List Value) (hs : a.eval s = v) (hown : w.ownsRow B e size v n xs) (ad : Addr) (m c : Nat) (news : List Value) (hx : a.eval x = .slice (some ad) m c) (hl : news.length = m * size) (hnews : ∀ j u, news[j]? = some u → w.cell? (ad.add j) = some u) (h1 : ∀ u ∈ news, u.oneCell' = true)
    (h63 : n + m ≤ maxLen) (hbytes : (n + m) * bytes ≤ 140737488355328) (hb : B ≤ w.heap.size)
    (h : ∀ v' w', w'.ownsRow B e size v' (n + m) (xs ++ news) → w.grownBy w' v.ownBlock → (v' = .slice none 0 0 ↔ v = .slice none 0 0 ∧ m = 0) → K (a.put o.dst v') w') :
    if Region.wanted o (yielded ops a.tmps) = true then Oper.wp Tryz.prog o a w K Q else E := by
  rw [if_pos (by simp [Region.wanted, hgd])]
  obtain ⟨v', w', hr, h2, h3, h8, _⟩ := run_append_own_at (P := Tryz.prog) w B t o.type e i0 z size bytes ht hi hz h4 h5 h6 h7 v n xs hown ad m c news hl hnews h1 h63 hbytes hb
  unfold Oper.wp execOp
  simp only [ho, resolve, invoke, builtin, Sem.run_bind, Sem.run_pure, Result.andThen_ok, List.map_toArray, List.map_cons, List.map_nil, hs, hx, hr]
  exact h v' w' h2 h3 h8
theorem make_str (n : Nat) (hn : n ≤ 8796093021953) (W : World) : (Instr.makeSlice 22 (.int .i64 0) (.int .i64 ((n : Int) + 1))).run Tryz.prog W = .ok (.slice (some ⟨W.heap.size, 0, none⟩) 0 (n + 1)) (W.alloc (.cells (madeCells #[.string ⟨#[]⟩] (n + 1)) 9)) := by
  obtain ⟨i0, hi, hz0, hz1, hz2⟩ := info_parts infoPS
  have := run_make (P := Tryz.prog) W 22 9 i0 _ Tryz.underlying22 hi hz0 .i64 .i64 0 (n + 1) (by omega) (by omega) (by rw [hz2]; omega) (by omega)
  rw [hz1] at this
  simpa [Value.cells] using this
/-- A list's copy among the rows that stand. -/
def Mk (o a : Option Addr) (c n : Nat) (T : TypeId) (k : Nat) (xs : List Value) (L : List RF) : Prop :=
  (o = none ∧ a = none ∧ c = 0 ∧ n = 0) ∨ (o ≠ none ∧ ∃ g lo hi, a = some ⟨g, 0, none⟩ ∧ (⟨lo, hi, T, k, .slice (some ⟨g, 0, none⟩) (n + 1) c, n + 1, xs⟩ : RF) ∈ L)
theorem row_someP {w : World} {e : TypeId} {B k : Nat} {v : Value} {n : Nat} {xs : List Value} (h : w.ownsRow B e k v n xs) (h0 : v ≠ .slice none 0 0) : ∃ g cap, v = .slice (some ⟨g, 0, none⟩) n cap ∧ n ≤ cap ∧ B ≤ g ∧ g < w.heap.size := by
  rcases h.2 with ⟨q, _⟩ | ⟨g, cap, cur, e, hB, hg, hn, _⟩
  · exact absurd q h0
  · exact ⟨g, cap, e, hn, hB, (Array.getElem?_eq_some_iff.1 hg).1⟩
theorem make_int (n : Nat) (hn : n ≤ 17592186043905) (W : World) : (Instr.makeSlice 23 (.int .i64 0) (.int .i64 ((n : Int) + 1))).run Tryz.prog W = .ok (.slice (some ⟨W.heap.size, 0, none⟩) 0 (n + 1)) (W.alloc (.cells (madeCells #[.int .i64 0] (n + 1)) 3)) := by
  obtain ⟨i0, hi, hz0, hz1, hz2⟩ := info_parts infoPN
  have := run_make (P := Tryz.prog) W 23 3 i0 _ Tryz.underlying23 hi hz0 .i64 .i64 0 (n + 1) (by omega) (by omega) (by rw [hz2]; omega) (by omega)
  rw [hz1] at this
  simpa [Value.cells] using this
theorem mk_more {o a : Option Addr} {c n : Nat} {T : TypeId} {k : Nat} {xs : List Value} {L : List RF} {r : RF} (h : Mk o a c n T k xs L) : Mk o a c n T k xs (r :: L) := by
  rcases h with h | ⟨h1, g, lo, hi, h2, h3⟩
  · exact .inl h
  · exact .inr ⟨h1, g, lo, hi, h2, List.mem_cons_of_mem _ h3⟩
def m4711 : In := ⟨-4711, 0, 0⟩
def sgsP (l : List Sg) : List Value := l.flatMap Sg.cs
theorem sgsP_app (a b : List Sg) : sgsP (a ++ b) = sgsP a ++ sgsP b := by simp [sgsP]
theorem icsP_len (l : List In) : (icsP l).length = l.length * 3 := by
  induction l with
  | nil => rfl
  | cons x r ih => simp only [icsP, List.flatMap_cons, List.length_append, List.length_cons] at *; rw [ih]; simp [icell]; omega
theorem icsP_at (l : List In) : ∀ i, i < l.length → ∀ j, j < 3 → (icsP l)[i * 3 + j]? = (icell (l.getD i default))[j]? := by
  induction l with
  | nil => intro i hi; simp at hi
  | cons x r ih =>
    intro i hi j hj
    have e : icsP (x :: r) = icell x ++ icsP r := rfl
    have le : (icell x).length = 3 := rfl
    rw [e]
    match i with
    | 0 => rw [List.getElem?_append_left (by omega)]; simp
    | i + 1 =>
      rw [List.getElem?_append_right (by omega), le, show (i + 1) * 3 + j - 3 = i * 3 + j by omega, ih i (by simpa using hi) j hj]
      simp
theorem icsP_one (l : List In) : ∀ u ∈ icsP l, u.oneCell' = true := by
  intro u hu
  obtain ⟨i, _, h⟩ := List.mem_flatMap.1 hu
  simp [icell] at h
  rcases h with rfl | rfl | rfl <;> rfl
theorem ir_news {W : World} {x : Addr} {n c : Nat} {l : List In} (h : IR W (some x) n c l) : ∀ j u, (icsP l)[j]? = some u → W.cell? (x.add j) = some u := by
  obtain ⟨_, hl, _, _, hr⟩ := h
  intro j u hj
  have hjn : j < l.length * 3 := by have := (List.getElem?_eq_some_iff.1 hj).1; rwa [icsP_len] at this
  rcases hr with q | ⟨b, o, e, _, hc⟩
  · omega
  · injection e with e
    subst e
    obtain ⟨i, k, hi, hk, rfl⟩ : ∃ i k, i < l.length ∧ k < 3 ∧ j = i * 3 + k := ⟨j / 3, j % 3, by omega, by omega, by omega⟩
    have h := hc i (by omega) k hk
    rw [Go.Addr.add_lit, ← Nat.add_assoc, h, ← hj, icsP_at l i hi k hk]
    have : k < (icell (l.getD i default)).length := hk
    show some ((icell (l.getD i default)).getD k default) = _
    generalize icell (l.getD i default) = z at *
    simp [List.getD, this]
theorem make_ins3 (n : Nat) (hn : n ≤ 5864062014635) (W : World) : (Instr.makeSlice 69 (.int .i64 0) (.int .i64 ((n : Int) + 1))).run Tryz.prog W = .ok (.slice (some ⟨W.heap.size, 0, none⟩) 0 (n + 1)) (W.alloc (.cells (madeCells #[.int .i64 0, .int .i64 0, .int .i64 0] ((n + 1) * 3)) 68)) := by
  obtain ⟨i0, hi, hz0, hz1, hz2⟩ := info_parts infoPI
  have := run_make (P := Tryz.prog) W 69 68 i0 _ Tryz.underlying69 hi hz0 .i64 .i64 0 (n + 1) (by omega) (by omega) (by rw [hz2]; omega) (by omega)
  rw [hz1] at this
  simpa [Value.cells] using this
theorem make_seg (n : Nat) (hn : n ≤ 4398046510977) (W : World) : (Instr.makeSlice 24 (.int .i64 0) (.int .i64 ((n : Int) + 1))).run Tryz.prog W = .ok (.slice (some ⟨W.heap.size, 0, none⟩) 0 (n + 1)) (W.alloc (.cells (madeCells #[.int .i64 0, .slice none 0 0] ((n + 1) * 2)) 71)) := by
  obtain ⟨i0, hi, hz0, hz1, hz2⟩ := info_parts infoPG
  have := run_make (P := Tryz.prog) W 24 71 i0 _ Tryz.underlying24 hi hz0 .i64 .i64 0 (n + 1) (by omega) (by omega) (by rw [hz2]; omega) (by omega)
  rw [hz1] at this
  simpa [Value.cells] using this
theorem cell_two_new (w : World) (x y : Value) (t : TypeId) : ∀ j u, [x, y][j]? = some u → (w.alloc (.cells #[x, y] t)).cell? ((⟨w.heap.size, 0, none⟩ : Addr).add j) = some u := by
  intro j u hj
  match j, hj with
  | 0, hj => simp at hj; subst hj; simp [Addr.add]
  | 1, hj => simp at hj; subst hj; simp [Addr.add]
theorem cell_three_new (w : World) (x y z : Value) (t : TypeId) : ∀ j u, [x, y, z][j]? = some u → (w.alloc (.cells #[x, y, z] t)).cell? ((⟨w.heap.size, 0, none⟩ : Addr).add j) = some u := by
  intro j u hj
  match j, hj with
  | 0, hj => simp at hj; subst hj; simp [Addr.add]
  | 1, hj => simp at hj; subst hj; simp [Addr.add]
  | 2, hj => simp at hj; subst hj; simp [Addr.add]
/-- What stands while the days are copied. -/
structure OD (w wr : World) (p : Pg) (A : Value → Array Value) (gd n : Nat) (Q : List Sg) (L : List RF) : Prop where
  os : OS w wr p (A (.slice (some ⟨gd, 0, none⟩) Q.length (n + 1))) L
  own : wr.ownsRow gd 71 2 (.slice (some ⟨gd, 0, none⟩) Q.length (n + 1)) Q.length (sgsP Q)
  far : ∀ r ∈ L, r.hi ≤ gd ∨ gd < r.lo
  g0 : w.heap.size + 3 ≤ gd
  le : Q.length ≤ n
  keys : Q.map Sg.key = (p.days.take Q.length).map Sg.key
  mks : ∀ i, i < Q.length → Mk (p.days.getD i default).ca (Q.getD i default).ca (Q.getD i default).cc (Q.getD i default).code.length 68 3 (icsP (Q.getD i default).code ++ icell m4711) L
theorem OD.later {w W W' : World} {p : Pg} {A : Value → Array Value} {gd n : Nat} {Q : List Sg} {L : List RF} (h : OD w W p A gd n Q L) (b : Below W.heap.size W W') : OD w W' p A gd n Q L :=
  ⟨h.os.later b, row_farP h.own (gr_below b none) (fun k q e => by cases e), h.far, h.g0, h.le, h.keys, h.mks⟩
theorem OD.add {w W : World} {p : Pg} {A : Value → Array Value} {gd n : Nat} {Q : List Sg} {L : List RF} (h : OD w W p A gd n Q L) (r : RF) (hr : r.at W) (h1 : gd < r.lo) (h2 : r.hi ≤ W.heap.size) : OD w W p A gd n Q (r :: L) :=
  ⟨h.os.add r hr (by have := h.g0; omega) h2, h.own, fun x hx => by
    rcases List.mem_cons.1 hx with rfl | q
    · exact .inr h1
    · exact h.far x q, h.g0, h.le, h.keys, fun i hi => mk_more (h.mks i hi)⟩
theorem OD.glt {w W : World} {p : Pg} {A : Value → Array Value} {gd n : Nat} {Q : List Sg} {L : List RF} (h : OD w W p A gd n Q L) : gd < W.heap.size := (h.own.lt gd rfl).2
theorem OS.far {w W W' : World} {p : Pg} {q : Array Value} {L : List RF} (h : OS w W p q L) {gd : Nat} (g : W.grownBy W' (some gd)) (h0 : w.heap.size + 3 ≤ gd) (h1 : ∀ r ∈ L, r.hi ≤ gd ∨ gd < r.lo) : OS w W' p q L :=
  ⟨h.bel.grown g h.bel.size (fun k e => by injection e with e; omega), h.b0.grown g (fun e => by injection e with e; omega), h.b1.grown g (fun e => by injection e with e; omega), h.b2.grown g (fun e => by injection e with e; omega),
    fun r hr => ⟨(h.rows r hr).1.grown g (fun k e => by injection e with e; subst e; rcases h1 r hr with t | t; exact .inr t; exact .inl t), (h.rows r hr).2.1, Nat.le_trans (h.rows r hr).2.2 g.size⟩, Nat.le_trans h.sz g.size, h.qs⟩
theorem OD.next {w W W' : World} {p : Pg} {A : Value → Array Value} {gd n : Nat} {Q : List Sg} {L : List RF} (h : OD w W p A gd n Q L) (hA : ∀ v v' (k : 7 < (A v).size), (A v).set 7 v' k = A v') (s : Sg)
    (g : W.grownBy W' (some gd)) (o : W'.ownsRow gd 71 2 (.slice (some ⟨gd, 0, none⟩) (Q.length + 1) (n + 1)) (Q.length + 1) (sgsP Q ++ s.cs)) (hn : Q.length < n) (hd : Q.length < p.days.length)
    (hk : s.key = (p.days.getD Q.length default).key) (hm : Mk (p.days.getD Q.length default).ca s.ca s.cc s.code.length 68 3 (icsP s.code ++ icell m4711) L) :
    OD w (W'.setCell ⟨w.heap.size + 1 + 1, 7, none⟩ (.slice (some ⟨gd, 0, none⟩) (Q.length + 1) (n + 1))) p A gd n (Q ++ [s]) L := by
  have o1 := h.os.far g h.g0 h.far
  have o2 := o1.setQ 7 (by rw [o1.qs]; omega) (.slice (some ⟨gd, 0, none⟩) (Q.length + 1) (n + 1))
  rw [hA] at o2
  have el : (Q ++ [s]).length = Q.length + 1 := by simp
  refine ⟨by rw [el]; exact o2, ?_, h.far, h.g0, by rw [el]; omega, ?_, ?_⟩
  · rw [el, sgsP_app, show sgsP [s] = s.cs by simp [sgsP]]
    exact row_farP o (setCell_gr W' _ _ _) (fun k q e e2 => by injection e with e; have := Option.some.inj e2; have := h.g0; simp at *; omega)
  · rw [el, List.map_append, h.keys, List.take_succ_eq_append_getElem hd, List.map_append]
    simp only [List.map_cons, List.map_nil]
    rw [hk]
    simp [List.getD, hd]
  · intro i hi
    rw [el] at hi
    by_cases hlt : i < Q.length
    · have e : (Q ++ [s]).getD i default = Q.getD i default := by simp [List.getD, List.getElem?_append_left hlt]
      rw [e]; exact h.mks i hlt
    · obtain rfl : i = Q.length := by omega
      have e : (Q ++ [s]).getD Q.length default = s := by simp [List.getD]
      rw [e]; exact hm
/-- A list's copy, in the world that is left. -/
def MkW (W : World) (o a : Option Addr) (c n : Nat) (T : TypeId) (k : Nat) (xs : List Value) : Prop :=
  (o = none ∧ a = none ∧ c = 0 ∧ n = 0) ∨ (o ≠ none ∧ ∃ g B, a = some ⟨g, 0, none⟩ ∧ W.ownsRow B T k (.slice (some ⟨g, 0, none⟩) (n + 1) c) (n + 1) xs)
theorem MkW.later {W W' : World} {o a : Option Addr} {c n : Nat} {T : TypeId} {k : Nat} {xs : List Value} (h : MkW W o a c n T k xs) (b : Below W.heap.size W W') : MkW W' o a c n T k xs := by
  rcases h with h | ⟨h1, g, B, h2, h3⟩
  · exact .inl h
  · exact .inr ⟨h1, g, B, h2, row_farP h3 (gr_below b none) (fun k q e => by cases e)⟩
theorem Mk.out {W : World} {o a : Option Addr} {c n : Nat} {T : TypeId} {k : Nat} {xs : List Value} {L : List RF} (h : Mk o a c n T k xs L) (hL : ∀ r ∈ L, r.at W) : MkW W o a c n T k xs := by
  rcases h with h | ⟨h1, g, lo, hi, h2, h3⟩
  · exact .inl h
  · exact .inr ⟨h1, g, lo, h2, (hL _ h3).own⟩
/-- What a copy is. -/
structure OwnE (W : World) (p q : Pg) : Prop where
  key : q.key = p.key
  mn : MkW W p.na q.na q.nc q.names.length 9 1 (strsP q.names ++ [bhV])
  mu : MkW W p.ua q.ua q.uc q.curs.length 9 1 (strsP q.curs ++ [bhV])
  mp : MkW W p.pa q.pa q.pc q.pool.length 3 1 (intsP q.pool ++ [.int .i64 (-4711)])
  md : (q.da = none ∧ q.dc = 0 ∧ q.days = []) ∨ ∃ g B, q.da = some ⟨g, 0, none⟩ ∧ W.ownsRow B 71 2 (.slice (some ⟨g, 0, none⟩) q.days.length q.dc) q.days.length (sgsP q.days)
  mc : ∀ i, i < q.days.length → MkW W (p.days.getD i default).ca (q.days.getD i default).ca (q.days.getD i default).cc (q.days.getD i default).code.length 68 3 (icsP (q.days.getD i default).code ++ icell m4711)
theorem OwnE.later {W W' : World} {p q : Pg} (h : OwnE W p q) (b : Below W.heap.size W W') : OwnE W' p q := by
  refine ⟨h.key, h.mn.later b, h.mu.later b, h.mp.later b, ?_, fun i hi => (h.mc i hi).later b⟩
  rcases h.md with q | ⟨g, B, q1, q2⟩
  · exact .inl q
  · exact .inr ⟨g, B, q1, row_farP q2 (gr_below b none) (fun k q e => by cases e)⟩
/-- The answer's box is filled. -/
theorem OS.fin {w W : World} {p : Pg} {q : Array Value} {L : List RF} (h : OS w W p q L) (v0 v1 v2 v3 v4 v5 v6 v7 : Value) :
    ∀ W', W' = (((((((W.setCell ⟨w.heap.size + 1, 0, none⟩ v0).setCell ⟨w.heap.size + 1, 1, none⟩ v1).setCell ⟨w.heap.size + 1, 2, none⟩ v2).setCell ⟨w.heap.size + 1, 3, none⟩ v3).setCell ⟨w.heap.size + 1, 4, none⟩ v4).setCell ⟨w.heap.size + 1, 5, none⟩ v5).setCell ⟨w.heap.size + 1, 6, none⟩ v6).setCell ⟨w.heap.size + 1, 7, none⟩ v7 →
    Below w.heap.size w W' ∧ (∀ r ∈ L, r.at W') ∧ BkP W' (w.heap.size + 1) #[v0, v1, v2, v3, v4, v5, v6, v7] 26 ∧ W.grownBy W' (some (w.heap.size + 1)) := by
  intro W' hW'
  subst hW'
  have G : W.grownBy ((((((((W.setCell ⟨w.heap.size + 1, 0, none⟩ v0).setCell ⟨w.heap.size + 1, 1, none⟩ v1).setCell ⟨w.heap.size + 1, 2, none⟩ v2).setCell ⟨w.heap.size + 1, 3, none⟩ v3).setCell ⟨w.heap.size + 1, 4, none⟩ v4).setCell ⟨w.heap.size + 1, 5, none⟩ v5).setCell ⟨w.heap.size + 1, 6, none⟩ v6).setCell ⟨w.heap.size + 1, 7, none⟩ v7) (some (w.heap.size + 1)) :=
    (((((((setCell_gr _ _ _ _).trans (setCell_gr _ _ _ _)).trans (setCell_gr _ _ _ _)).trans (setCell_gr _ _ _ _)).trans (setCell_gr _ _ _ _)).trans (setCell_gr _ _ _ _)).trans (setCell_gr _ _ _ _)).trans (setCell_gr _ _ _ _)
  refine ⟨h.bel.grown G h.bel.size (fun k e => by injection e with e; omega), fun r hr => (h.rows r hr).1.grown G (fun k e => by injection e with e; have := (h.rows r hr).2.1; left; omega), ?_, G⟩
  have := (((((((h.b1.set 0 v0 (by simp [pz])).set 1 v1 (by simp [pz])).set 2 v2 (by simp [pz])).set 3 v3 (by simp [pz])).set 4 v4 (by simp [pz])).set 5 v5 (by simp [pz])).set 6 v6 (by simp [pz])).set 7 v7 (by simp [pz])
  exact this
end Go.Proofs.YtpfjnnkjoabgbaaGreatDoor

namespace Go.Proofs.YtpfjnnkjoabgbaaGreatDoor
open Go.RowKit
set_option linter.unusedVariables false
set_option linter.unusedSimpArgs false
theorem bel_dr {w W : World} (b : Below w.heap.size w W) (q : Nat) : Below w.heap.size w (W.drewN q) := b.trans ((drewBP W q).mono b.size)
theorem days_len {l l' : List Sg} (h : l.map Sg.key = l'.map Sg.key) : l.length = l'.length := by have := congrArg List.length h; simpa using this
theorem heap_newP (w : World) (o : Obj) : (w.alloc o).heap[w.heap.size]? = some o := by show (w.heap.push o)[w.heap.size]? = _; simp
theorem two_box (w : World) (o1 o2 : Obj) : ((w.alloc o1).alloc o2).heap[w.heap.size]? = some o1 ∧ ((w.alloc o1).alloc o2).heap[w.heap.size + 1]? = some o2 :=
  ⟨(Below.heap_alloc _ _ _ (by simp)).trans (heap_newP w o1), by simpa using heap_newP (w.alloc o1) o2⟩
theorem box_all8 {w : World} {x : Nat} {a b c d e f g h : Value} {t : TypeId} (k : w.heap[x]? = some (.cells #[a, b, c, d, e, f, g, h] t)) : w.cell? ⟨x, 0, none⟩ = some a ∧ w.cell? ⟨x, 1, none⟩ = some b ∧ w.cell? ⟨x, 2, none⟩ = some c ∧ w.cell? ⟨x, 3, none⟩ = some d ∧ w.cell? ⟨x, 4, none⟩ = some e ∧ w.cell? ⟨x, 5, none⟩ = some f ∧ w.cell? ⟨x, 6, none⟩ = some g ∧ w.cell? ⟨x, 7, none⟩ = some h := by
  refine ⟨?_, ?_, ?_, ?_, ?_, ?_, ?_, ?_⟩ <;> simp [World.cell?, k]
end Go.Proofs.YtpfjnnkjoabgbaaGreatDoor

namespace Go.Proofs.YtpfjnnkjoabgbaaGreatDoor
open Go.RowKit
set_option linter.unusedVariables false
set_option linter.unusedSimpArgs false
end Go.Proofs.YtpfjnnkjoabgbaaGreatDoor
