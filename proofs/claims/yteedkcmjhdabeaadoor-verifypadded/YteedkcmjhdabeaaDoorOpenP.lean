/-
  OPENING PROGRAMS THAT CAME IN (own work).
-/
import Derived.Test.YteedkcmjhdabeaaDoorOpenTree2
import Derived.Test.YteedkcmjhdabeaaDoorPlainCode
namespace Go.Proofs.YteedkcmjhdabeaaDoor
open Go.ChangeShapes Go.WideShapes Go.ChangeAt Go.RowKit Go.Deep
set_option linter.unusedVariables false
set_option linter.unusedSimpArgs false

/-- A day's segment: its day, its code; where that lies. -/
structure Sg where
  day : Int
  ca : Option Addr
  cc : Nat
  code : List In
  deriving Inhabited
def Sg.cs (s : Sg) : List Value := [.int .i64 s.day, .slice s.ca s.code.length s.cc]
/-- A program: its lists and numbers; where the lists lie. -/
structure Pg where
  na : Option Addr
  nc : Nat
  names : List ByteArray
  ua : Option Addr
  uc : Nat
  curs : List ByteArray
  pa : Option Addr
  pc : Nat
  pool : List Int
  hor : Int
  cells : Int
  slots : Int
  stack : Int
  da : Option Addr
  dc : Nat
  days : List Sg
  deriving Inhabited
def Pg.cs (p : Pg) : List Value := [.slice p.na p.names.length p.nc, .slice p.ua p.curs.length p.uc, .slice p.pa p.pool.length p.pc, .int .i64 p.hor, .int .i64 p.cells, .int .i64 p.slots, .int .i64 p.stack, .slice p.da p.days.length p.dc]
def icell (i : In) : List Value := [.int .i64 i.o, .int .i64 i.a, .int .i64 i.b]
/-- A list of instructions, with its bounds. -/
def IR (w : World) (a : Option Addr) (n cap : Nat) (l : List In) : Prop :=
  Hd a n cap ∧ l.length = n ∧ n ≤ 5864062014634 ∧ (∀ i ∈ l, i64 i.o ∧ i64 i.a ∧ i64 i.b) ∧ Row w a n 3 (fun i => icell (l.getD i default))
theorem IR.later {w w' : World} {a n c l} (h : IR w a n c l) (b : Below w.heap.size w w') : IR w' a n c l := ⟨h.1, h.2.1, h.2.2.1, h.2.2.2.1, h.2.2.2.2.later b⟩
/-- A list of numbers, with its bounds. -/
def NR (w : World) (a : Option Addr) (n cap : Nat) (l : List Int) : Prop :=
  Hd a n cap ∧ l.length = n ∧ n ≤ 17592186043904 ∧ (∀ i ∈ l, i64 i) ∧ Row w a n 1 (fun i => [.int .i64 (l.getD i 0)])
theorem NR.later {w w' : World} {a n c l} (h : NR w a n c l) (b : Below w.heap.size w w') : NR w' a n c l := ⟨h.1, h.2.1, h.2.2.1, h.2.2.2.1, h.2.2.2.2.later b⟩
def GV (w : World) (s : Sg) : Prop := i64 s.day ∧ IR w s.ca s.code.length s.cc s.code
def GL (w : World) (a : Option Addr) (n cap : Nat) (l : List Sg) : Prop :=
  Hd a n cap ∧ l.length = n ∧ n ≤ 4398046510976 ∧ (∀ s ∈ l, GV w s) ∧ Row w a n 2 (fun i => (l.getD i default).cs)
theorem GV.later {w w' : World} {s : Sg} (h : GV w s) (b : Below w.heap.size w w') : GV w' s := ⟨h.1, h.2.later b⟩
theorem GL.later {w w' : World} {a n c l} (h : GL w a n c l) (b : Below w.heap.size w w') : GL w' a n c l := ⟨h.1, h.2.1, h.2.2.1, fun s hs => (h.2.2.2.1 s hs).later b, h.2.2.2.2.later b⟩
structure PV (w : World) (p : Pg) : Prop where
  names : SR w p.na p.names.length p.nc p.names
  curs : SR w p.ua p.curs.length p.uc p.curs
  pool : NR w p.pa p.pool.length p.pc p.pool
  hor : i64 p.hor
  cells : i64 p.cells
  slots : i64 p.slots
  stack : i64 p.stack
  days : GL w p.da p.days.length p.dc p.days
theorem PV.later {w w' : World} {p : Pg} (h : PV w p) (b : Below w.heap.size w w') : PV w' p := ⟨h.names.later b, h.curs.later b, h.pool.later b, h.hor, h.cells, h.slots, h.stack, h.days.later b⟩
theorem Row.congrP {w : World} {a : Option Addr} {n k : Nat} {V V' : Nat → List Value} (h : Row w a n k V) (e : ∀ i, i < n → V i = V' i) : Row w a n k V' := by
  rcases h with h | ⟨b, o, h1, h2, h3⟩
  · exact .inl h
  · exact .inr ⟨b, o, h1, h2, fun i hi j hj => by rw [← e i hi]; exact h3 i hi j hj⟩
/-- The types of a program. -/
structure PT (P : Program) where
  I : TypeId
  hI : P.underlying I = some (.int .i64)
  cI : P.cellsOf I = 1
  bI : P.bytesOf I = 8
  SI : TypeId
  hSI : P.underlying SI = some (.slice I)
  cSI : P.cellsOf SI = 1
  S : TypeId
  hS : P.underlying S = some .string
  cS : P.cellsOf S = 1
  bS : P.bytesOf S = 16
  SS : TypeId
  hSS : P.underlying SS = some (.slice S)
  cSS : P.cellsOf SS = 1
  J : TypeId
  fJ : Array Field
  hJ : P.underlying J = some (.struct fJ)
  lJ : fJ.toList.map (fun f => (f.type, f.offset)) = [(I, 0), (I, 1), (I, 2)]
  cJ : P.cellsOf J = 3
  bJ : P.bytesOf J = 24
  SJ : TypeId
  hSJ : P.underlying SJ = some (.slice J)
  cSJ : P.cellsOf SJ = 1
  G : TypeId
  fG : Array Field
  hG : P.underlying G = some (.struct fG)
  lG : fG.toList.map (fun f => (f.type, f.offset)) = [(I, 0), (SJ, 1)]
  cG : P.cellsOf G = 2
  bG : P.bytesOf G = 32
  SG : TypeId
  hSG : P.underlying SG = some (.slice G)
  cSG : P.cellsOf SG = 1
  Q : TypeId
  fQ : Array Field
  hQ : P.underlying Q = some (.struct fQ)
  lQ : fQ.toList.map (fun f => (f.type, f.offset)) = [(SS, 0), (SS, 1), (SI, 2), (I, 3), (I, 4), (I, 5), (I, 6), (SG, 7)]
  cQ : P.cellsOf Q = 8
section
variable {H : Type} {enc : TypeId × Value → H} {P : Program} {W : World} {base : Nat} {sp : Nat → Bool} {held : Bool}
theorem pgetD_map_range {α : Type} [Inhabited α] {n i : Nat} {f : Nat → α} (h : i < n) : ((List.range n).map f).getD i default = f i := by simp [h]
theorem prd_fields {t : TypeId} {fs : Array Field} {L : List (TypeId × Nat)} {fuel : Nat} {cs : List Value} (ht : P.underlying t = some (.struct fs)) (hfs : fs.toList.map (fun f => (f.type, f.offset)) = L) (h : Rd enc P W base sp held fuel t cs) :
    ∃ n, fuel = n + 1 ∧ cs.length = P.cellsOf t ∧ ∀ (i : Nat) (p : TypeId × Nat), L[i]? = some p → Rd enc P W base sp held n p.1 ((cs.drop p.2).take (P.cellsOf p.1)) := by
  obtain ⟨n, h1, h2, h3⟩ := rd_struct ht h
  refine ⟨n, h1, h2, fun i p hp => ?_⟩
  rw [← hfs, List.getElem?_map] at hp
  obtain ⟨f, hf, rfl⟩ := Option.map_eq_some_iff.1 hp
  exact h3 i f (by simpa using hf)
/-- A list of things of one kind. -/
theorem rd_list {α : Type} [Inhabited α] {SE E k bsz : Nat} (hSE : P.underlying SE = some (.slice E)) (cE : P.cellsOf E = k) (bE : P.bytesOf E = bsz) (hk : 0 < k) {fuel : Nat} {cs : List Value} (C : α → List Value) (Ok : α → Prop)
    (one : ∀ n cs, Rd enc P W base sp held n E cs → ∃ x, cs = C x ∧ Ok x) (h : Rd enc P W base sp held fuel SE cs) :
    ∃ a cap, ∃ l : List α, cs = [.slice a l.length cap] ∧ Hd a l.length cap ∧ l.length * bsz ≤ reachBytes ∧ (∀ x ∈ l, Ok x) ∧ Row W a l.length k (fun i => C (l.getD i default)) := by
  rcases rd_slice hSE h with rfl | ⟨y, len, cap, n, rfl, hn, hl, hm, hz, hx⟩
  · exact ⟨none, 0, [], rfl, ⟨fun _ => ⟨rfl, rfl⟩, Nat.le_refl _, by unfold maxLen; omega⟩, by simp, by simp, .inl rfl⟩
  · obtain ⟨V, hr, hv⟩ := rd_row cE hk hx
    obtain ⟨F, hF⟩ := choose_lt (α := α) (n := len) (p := fun i x => V i = C x ∧ Ok x) (fun i hi => one n _ (hv i hi).2)
    rw [bE] at hz
    refine ⟨some y, cap, (List.range len).map F, by simp, ⟨(fun e => by cases e), by simpa using hl, hm⟩, by simpa using hz, ?_, ?_⟩
    · intro x hx
      obtain ⟨i, hi, rfl⟩ := List.mem_map.1 hx
      exact (hF i (by simpa using hi)).2
    · have : Row W (some y) len k (fun i => C (((List.range len).map F).getD i default)) := Row.congrP hr (fun i hi => by rw [pgetD_map_range hi]; exact (hF i hi).1)
      simpa using this
theorem rd_texts (T : PT P) {fuel : Nat} {cs : List Value} (h : Rd enc P W base sp held fuel T.SS cs) : ∃ a cap l, cs = [.slice a (List.length l) cap] ∧ SR W a l.length cap l := by
  obtain ⟨a, cap, l, h1, h2, h3, h4, h5⟩ := rd_list (α := ByteArray) T.hSS T.cS T.bS (by omega) (fun s => [.string s]) (fun s => s.size ≤ 140737488351232) (fun n cs h => rd_string T.hS h) h
  unfold reachBytes at h3
  exact ⟨a, cap, l, h1, h2, rfl, by omega, h4, h5⟩
theorem rd_ints (T : PT P) {fuel : Nat} {cs : List Value} (h : Rd enc P W base sp held fuel T.SI cs) : ∃ a cap l, cs = [.slice a (List.length l) cap] ∧ NR W a l.length cap l := by
  obtain ⟨a, cap, l, h1, h2, h3, h4, h5⟩ := rd_list (α := Int) T.hSI T.cI T.bI (by omega) (fun s => [.int .i64 s]) i64 (fun n cs h => rd_int T.hI h) h
  unfold reachBytes at h3
  exact ⟨a, cap, l, h1, h2, rfl, by omega, h4, h5⟩
theorem rd_instrs (T : PT P) {fuel : Nat} {cs : List Value} (h : Rd enc P W base sp held fuel T.SJ cs) : ∃ a cap l, cs = [.slice a (List.length l) cap] ∧ IR W a l.length cap l := by
  obtain ⟨a, cap, l, h1, h2, h3, h4, h5⟩ := rd_list (α := In) T.hSJ T.cJ T.bJ (by omega) icell (fun i => i64 i.o ∧ i64 i.a ∧ i64 i.b) (fun n cs h => by
    obtain ⟨m, _, hl, hf⟩ := prd_fields T.hJ T.lJ h
    rw [T.cJ] at hl
    match cs, hl with
    | [c0, c1, c2], _ =>
      have k0 := hf 0 _ rfl
      have k1 := hf 1 _ rfl
      have k2 := hf 2 _ rfl
      simp only [T.cI] at k0 k1 k2
      obtain ⟨z0, r0, w0⟩ := rd_int T.hI k0
      obtain ⟨z1, r1, w1⟩ := rd_int T.hI k1
      obtain ⟨z2, r2, w2⟩ := rd_int T.hI k2
      simp at r0 r1 r2
      subst r0 r1 r2
      exact ⟨⟨z0, z1, z2⟩, rfl, w0, w1, w2⟩) h
  unfold reachBytes at h3
  exact ⟨a, cap, l, h1, h2, rfl, by omega, h4, h5⟩
theorem rd_segs (T : PT P) {fuel : Nat} {cs : List Value} (h : Rd enc P W base sp held fuel T.SG cs) : ∃ a cap l, cs = [.slice a (List.length l) cap] ∧ GL W a l.length cap l := by
  obtain ⟨a, cap, l, h1, h2, h3, h4, h5⟩ := rd_list (α := Sg) T.hSG T.cG T.bG (by omega) Sg.cs (GV W) (fun n cs h => by
    obtain ⟨m, _, hl, hf⟩ := prd_fields T.hG T.lG h
    rw [T.cG] at hl
    match cs, hl with
    | [c0, c1], _ =>
      have k0 := hf 0 _ rfl
      have k1 := hf 1 _ rfl
      simp only [T.cI, T.cSJ] at k0 k1
      obtain ⟨z0, r0, w0⟩ := rd_int T.hI k0
      obtain ⟨a, cap, l, r1, w1⟩ := rd_instrs T k1
      simp at r0 r1
      subst r0 r1
      exact ⟨⟨z0, a, cap, l⟩, rfl, w0, w1⟩) h
  unfold reachBytes at h3
  exact ⟨a, cap, l, h1, h2, rfl, by omega, h4, h5⟩
theorem open_pg {r : Reach} {b0 : Nat} (T : PT P) {v : Value} {d : DataW H} {ps : List MemPlace} (hok : Value.okWide P W r b0 T.Q v) (h : DataW.Trod enc P W base sp held T.Q v d ps) (hz : ∀ n ∈ d.weights P T.Q, n ≤ reachBytes) :
    ∃ p : Pg, v = .agg p.cs.toArray ∧ PV W p := by
  obtain ⟨cs, rfl, hsz⟩ := okWide_struct T.hQ hok
  obtain ⟨fuel, hf⟩ := h
  obtain ⟨l⟩ := cs
  have hr : Rd enc P W base sp held fuel T.Q l := ⟨_, hf, hz⟩
  clear hf hz
  obtain ⟨m, _, hl, hf⟩ := prd_fields (enc := enc) (base := base) (sp := sp) (held := held) T.hQ T.lQ hr
  rw [T.cQ] at hl
  match l, hl with
  | [c0, c1, c2, c3, c4, c5, c6, c7], _ =>
    have k0 := hf 0 _ rfl
    have k1 := hf 1 _ rfl
    have k2 := hf 2 _ rfl
    have k3 := hf 3 _ rfl
    have k4 := hf 4 _ rfl
    have k5 := hf 5 _ rfl
    have k6 := hf 6 _ rfl
    have k7 := hf 7 _ rfl
    simp only [T.cI, T.cSS, T.cSI, T.cSG] at k0 k1 k2 k3 k4 k5 k6 k7
    obtain ⟨na, nc, names, r0, w0⟩ := rd_texts T k0
    obtain ⟨ua, uc, curs, r1, w1⟩ := rd_texts T k1
    obtain ⟨pa, pc, pool, r2, w2⟩ := rd_ints T k2
    obtain ⟨z3, r3, w3⟩ := rd_int T.hI k3
    obtain ⟨z4, r4, w4⟩ := rd_int T.hI k4
    obtain ⟨z5, r5, w5⟩ := rd_int T.hI k5
    obtain ⟨z6, r6, w6⟩ := rd_int T.hI k6
    obtain ⟨da, dc, days, r7, w7⟩ := rd_segs T k7
    simp at r0 r1 r2 r3 r4 r5 r6 r7
    subst r0 r1 r2 r3 r4 r5 r6 r7
    exact ⟨⟨na, nc, names, ua, uc, curs, pa, pc, pool, z3, z4, z5, z6, da, dc, days⟩, rfl, ⟨w0, w1, w2, w3, w4, w5, w6, w7⟩⟩
end
end Go.Proofs.YteedkcmjhdabeaaDoor
