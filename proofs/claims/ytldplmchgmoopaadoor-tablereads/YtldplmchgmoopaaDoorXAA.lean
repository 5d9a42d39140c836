import Derived.ProofKit
import Derived.OpenShut
import Derived.Deep.Slices
import Derived.SizedLaws
import Derived.Below
import Derived.Test.YtldplmchgmoopaaDoorRows
import Derived.WalkKit
import Derived.WalkSpells
import Derived.BigCall
import Derived.BigGuard
import Derived.BigQuiet
import Derived.Deep.QuietTactic
import Derived.Lib.Hide
import Derived.RangeFuncNested
import Derived.RangeFuncBound
import Derived.RangeFuncCalls
import Derived.RangeFuncLeaves
import Derived.RangeFuncWrites
import Derived.Maps.OwnIn
import Derived.Maps.OwnOps
import Derived.Maps.Views
import Derived.Shelf.Abstract
import Derived.Shelf.RegionOpen
import Derived.OwnWalkIn
import Derived.TacticsInMore
import Derived.LoopNIn
import Derived.LoopIn
import Derived.Laws.MakeOwn
import Derived.Lib.SmallJoins
import Derived.Deep.RegionHeld3
namespace Go.Proofs.YtldplmchgmoopaaDoor
open Go.ChangeShapes Go.WideShapes Go.ChangeAt Go.RowKit Go.Deep
set_option linter.unusedVariables false

/-- A cell: whether it has an observation, and its number. -/
structure Cl where
  h : Bool
  v : Int
  deriving Inhabited, DecidableEq
/-- A row as it lies in the list of rows, and what it holds. -/
structure Rw where
  a : Option Addr
  n : Nat
  cap : Nat
  cs : List Cl
  deriving Inhabited

def CC (w : World) (b o : Nat) (c : Cl) : Prop := w.cell? ⟨b, o, none⟩ = some (.bool c.h) ∧ w.cell? ⟨b, o + 1, none⟩ = some (.int .i64 c.v)
def RC (w : World) (a : Option Addr) (n : Nat) (cs : List Cl) : Prop :=
  cs.length = n ∧ n ≤ 8796093021952 ∧ (∀ c ∈ cs, (Lit.int .i64 c.v).wf = true) ∧ (n = 0 ∨ ∃ b o, a = some ⟨b, o, none⟩ ∧ b < w.heap.size ∧ ∀ i, i < n → CC w b (o + i * 2) (cs.getD i default))
def NL (w : World) (a : Option Addr) (n : Nat) (ss : List ByteArray) : Prop :=
  ss.length = n ∧ n ≤ 8796093021952 ∧ (∀ s ∈ ss, s.size ≤ 140737488351232) ∧ (n = 0 ∨ ∃ b o, a = some ⟨b, o, none⟩ ∧ b < w.heap.size ∧ ∀ i, i < n → w.cell? ⟨b, o + i, none⟩ = some (.string (ss.getD i default)))
def RL (w : World) (a : Option Addr) (n : Nat) (rs : List Rw) : Prop :=
  rs.length = n ∧ n ≤ 5864062014635 ∧ (∀ r ∈ rs, RC w r.a r.n r.cs ∧ (r.a = none → r.n = 0 ∧ r.cap = 0) ∧ r.n ≤ r.cap ∧ r.cap ≤ maxLen) ∧
    (n = 0 ∨ ∃ b o, a = some ⟨b, o, none⟩ ∧ b < w.heap.size ∧ ∀ i, i < n → w.cell? ⟨b, o + i, none⟩ = some (.slice (rs.getD i default).a (rs.getD i default).n (rs.getD i default).cap))

theorem CC.later {w w' : World} {B b o : Nat} {c : Cl} (h : CC w b o c) (hb : Below B w w') (hB : b < B) : CC w' b o c :=
  ⟨(hb.cell (p := ⟨b, o, none⟩) hB).trans h.1, (hb.cell (p := ⟨b, o + 1, none⟩) hB).trans h.2⟩
theorem RC.later {w w' : World} {a n cs} (h : RC w a n cs) (b : Below w.heap.size w w') : RC w' a n cs := by
  obtain ⟨h1, h2, h3, h4⟩ := h
  refine ⟨h1, h2, h3, ?_⟩
  rcases h4 with h4 | ⟨x, o, rfl, hx, hc⟩
  · exact .inl h4
  · exact .inr ⟨x, o, rfl, Nat.lt_of_lt_of_le hx b.size, fun i hi => (hc i hi).later b hx⟩
theorem NL.later {w w' : World} {a n ss} (h : NL w a n ss) (b : Below w.heap.size w w') : NL w' a n ss := by
  obtain ⟨h1, h2, h3, h4⟩ := h
  refine ⟨h1, h2, h3, ?_⟩
  rcases h4 with h4 | ⟨x, o, rfl, hx, hc⟩
  · exact .inl h4
  · exact .inr ⟨x, o, rfl, Nat.lt_of_lt_of_le hx b.size, fun i hi => by rw [b.cell (p := ⟨x, o + i, none⟩) hx]; exact hc i hi⟩
theorem RL.later {w w' : World} {a n rs} (h : RL w a n rs) (b : Below w.heap.size w w') : RL w' a n rs := by
  obtain ⟨h1, h2, h3, h4⟩ := h
  refine ⟨h1, h2, fun r hr => ⟨(h3 r hr).1.later b, (h3 r hr).2⟩, ?_⟩
  rcases h4 with h4 | ⟨x, o, rfl, hx, hc⟩
  · exact .inl h4
  · exact .inr ⟨x, o, rfl, Nat.lt_of_lt_of_le hx b.size, fun i hi => by rw [b.cell (p := ⟨x, o + i, none⟩) hx]; exact hc i hi⟩

theorem addr_of {w : World} {x : Addr} {v : Value} (h : w.cell? x = some v) : ∃ b o, x = ⟨b, o, none⟩ ∧ b < w.heap.size := by
  obtain ⟨b, o, s⟩ := x
  have hs : s = none := World.cell?_spot h
  subst hs
  refine ⟨b, o, rfl, ?_⟩
  by_cases hlt : b < w.heap.size
  · exact hlt
  · exfalso
    have hn : w.heap[b]? = none := by simp; omega
    simp [World.cell?, hn] at h
theorem addT_add (a : Addr) (m n : Nat) : (a.add m).add n = a.add (m + n) := by
  unfold Addr.add
  by_cases h1 : m = 0
  · subst h1; simp
  · by_cases h2 : n = 0
    · subst h2; simp
    · simp [h1, h2, Nat.add_assoc]
theorem weights_all {H : Type} {P : Program} {e : TypeId} {l : List (DataW H)} {d : DataW H} (h : d ∈ l) : ∀ n ∈ d.weights P e, n ∈ DataW.weightsAll P e l := by
  induction l with
  | nil => cases h
  | cons x r ih =>
    intro n hn
    simp only [DataW.weightsAll, List.mem_append]
    cases List.mem_cons.1 h with
    | inl e => subst e; exact .inl hn
    | inr e => exact .inr (ih e n hn)

section
variable {H : Type} {enc : TypeId × Value → H} {P : Program} {W : World} {base : Nat} {sp : Nat → Bool} {held : Bool}

theorem trod_cl {t bt e : TypeId} {fs : Array Field} {fuel : Nat} {cs : List Value} {x : DataW H × List MemPlace}
    (ht : P.underlying t = some (.struct fs)) (hfs : fs.toList.map (fun f => (f.type, f.offset)) = [(bt, 0), (e, 1)]) (hb : P.underlying bt = some .bool) (he : P.underlying e = some (.int .i64)) (hcb : P.cellsOf bt = 1) (hce : P.cellsOf e = 1) (hct : P.cellsOf t = 2)
    (h : DataW.trod enc P W base sp held fuel t cs = some x) : ∃ c : Cl, cs = [.bool c.h, .int .i64 c.v] ∧ (Lit.int .i64 c.v).wf = true := by
  obtain ⟨xs, n, _, _, hl, hlen, hfld⟩ := DataW.trod_struct ht h
  rw [hct] at hl
  obtain ⟨c0, c1, rfl⟩ : ∃ a b, cs = [a, b] := by
    match cs, hl with
    | [a, b], _ => exact ⟨a, b, rfl⟩
  have h3 : fs.size = 2 := by have := congrArg List.length hfs; simpa using this
  have fat : ∀ i (hi : i < 2), ∃ f, fs[i]? = some f ∧ (f.type, f.offset) = [(bt, 0), (e, 1)][i] := fun i hi => by
    refine ⟨fs[i]'(by omega), by simp [show i < fs.size by omega], ?_⟩
    have : (fs.toList.map (fun f => (f.type, f.offset)))[i]? = [(bt, 0), (e, 1)][i]? := by rw [hfs]
    simpa [show i < fs.size by omega, hi] using this
  have ex : ∀ i, i < 2 → ∃ y, xs[i]? = some y := fun i hi => ⟨xs[i]'(by omega), by simp [show i < xs.length by omega]⟩
  obtain ⟨f0, g0, e0⟩ := fat 0 (by omega)
  obtain ⟨f1, g1, e1⟩ := fat 1 (by omega)
  obtain ⟨y0, q0⟩ := ex 0 (by omega)
  obtain ⟨y1, q1⟩ := ex 1 (by omega)
  have k0 := hfld 0 f0 g0
  have k1 := hfld 1 f1 g1
  simp at e0 e1
  rw [q0, e0.1, e0.2, hcb] at k0
  rw [q1, e1.1, e1.2, hce] at k1
  obtain ⟨z0, r0, _⟩ := DataW.trod_bool hb k0
  obtain ⟨z1, r1, _, w1⟩ := DataW.trod_int he k1
  simp at r0 r1
  subst r0 r1
  exact ⟨⟨z0, z1⟩, rfl, w1⟩

theorem open_cells {T t bt e : TypeId} {fs : Array Field} {fuel : Nat} {a : Option Addr} {len cap : Nat} {x : DataW H × List MemPlace}
    (hT : P.underlying T = some (.slice t)) (ht : P.underlying t = some (.struct fs)) (hfs : fs.toList.map (fun f => (f.type, f.offset)) = [(bt, 0), (e, 1)]) (hb : P.underlying bt = some .bool) (he : P.underlying e = some (.int .i64)) (hcb : P.cellsOf bt = 1) (hce : P.cellsOf e = 1) (hct : P.cellsOf t = 2) (hby : P.bytesOf t = 16)
    (h : DataW.trod enc P W base sp held fuel T [.slice a len cap] = some x) (hs : ∀ n ∈ x.1.weights P T, n ≤ reachBytes) :
    ∃ cs, RC W a len cs ∧ (a = none → len = 0 ∧ cap = 0) ∧ len ≤ cap ∧ cap ≤ maxLen := by
  rcases open_slice hT h with ⟨h0, _⟩ | ⟨y, l, c, m, n, D, Pl, h0, hbb, hl, hm, hmm, xe, hx⟩
  · simp at h0
    obtain ⟨rfl, rfl, rfl⟩ := h0
    exact ⟨[], ⟨rfl, by omega, (fun c hc => by cases hc), .inl rfl⟩, fun _ => ⟨rfl, rfl⟩, Nat.le_refl _, by unfold maxLen; omega⟩
  · simp at h0
    obtain ⟨rfl, rfl, rfl⟩ := h0
    have hlm : len ≤ m := by rw [hmm]; split <;> omega
    have hsz := hs ((((List.range len).map D).length + ((List.range (m - len)).map fun j => D (len + j)).length) * P.bytesOf t) (by rw [xe]; simp [DataW.weights, hT])
    simp [hby, reachBytes] at hsz
    obtain ⟨F, hF⟩ := choose_lt (α := Cl) (n := len) (p := fun i f => (Lit.int .i64 f.v).wf = true ∧ W.cell? (y.add (i * 2)) = some (.bool f.h) ∧ W.cell? (y.add (i * 2 + 1)) = some (.int .i64 f.v)) (fun i hi => by
      obtain ⟨cs', h1, h2⟩ := hx i (by omega)
      rw [hct] at h1
      obtain ⟨_, _, h3⟩ := World.cells?_some h1
      obtain ⟨f, rfl, w⟩ := trod_cl ht hfs hb he hcb hce hct h2
      have a0 := h3 0 (by omega)
      have a1 := h3 1 (by omega)
      rw [addT_add] at a0 a1
      exact ⟨f, w, a0, a1⟩)
    have g : ∀ i, i < len → ((List.range len).map F).getD i default = F i := fun i hi => by simp [hi]
    refine ⟨(List.range len).map F, ⟨by simp, by omega, ?_, ?_⟩, (fun e => by cases e), hl, hm⟩
    · intro f hf
      simp at hf
      obtain ⟨i, hi, rfl⟩ := hf
      exact (hF i hi).1
    · by_cases h0 : len = 0
      · exact .inl h0
      · have h00 := (hF 0 (by omega)).2.1
        have e0 : y.add (0 * 2) = y := by simp [Addr.add]
        rw [e0] at h00
        obtain ⟨b, o, rfl, hlt⟩ := addr_of h00
        refine .inr ⟨b, o, rfl, hlt, fun i hi => ?_⟩
        rw [g i hi]
        have := (hF i hi).2
        rw [Go.Addr.add_lit, Go.Addr.add_lit] at this
        exact this

theorem open_names {T e : TypeId} {fuel : Nat} {a : Option Addr} {len cap : Nat} {x : DataW H × List MemPlace}
    (hT : P.underlying T = some (.slice e)) (he : P.underlying e = some .string) (hce : P.cellsOf e = 1) (hby : P.bytesOf e = 16)
    (h : DataW.trod enc P W base sp held fuel T [.slice a len cap] = some x) (hs : ∀ n ∈ x.1.weights P T, n ≤ reachBytes) :
    ∃ ss, NL W a len ss ∧ (a = none → len = 0 ∧ cap = 0) ∧ len ≤ cap ∧ cap ≤ maxLen := by
  rcases open_slice1 hT hce h with ⟨h0, _⟩ | ⟨y, l, c, m, n, V, D, Pl, h0, hbb, hl, hm, hmm, xe, hx⟩
  · simp at h0
    obtain ⟨rfl, rfl, rfl⟩ := h0
    exact ⟨[], ⟨rfl, by omega, (fun c hc => by cases hc), .inl rfl⟩, fun _ => ⟨rfl, rfl⟩, Nat.le_refl _, by unfold maxLen; omega⟩
  · simp at h0
    obtain ⟨rfl, rfl, rfl⟩ := h0
    have hlm : len ≤ m := by rw [hmm]; split <;> omega
    have hsz := hs ((((List.range len).map D).length + ((List.range (m - len)).map fun j => D (len + j)).length) * P.bytesOf e) (by rw [xe]; simp [DataW.weights, hT])
    simp [hby, reachBytes] at hsz
    obtain ⟨F, hF⟩ := choose_lt (α := ByteArray) (n := len) (p := fun i f => f.size ≤ 140737488351232 ∧ W.cell? (y.add i) = some (.string f)) (fun i hi => by
      obtain ⟨h1, h2⟩ := hx i (by omega)
      obtain ⟨f, r, q, _⟩ := DataW.trod_string he h2
      simp at r
      refine ⟨f, ?_, by rw [h1, r]⟩
      have e1 : D i = .lit (.string f.data.toList) := by
        have := congrArg Prod.fst q; simpa using this
      have := hs f.data.toList.length (by
        rw [xe]
        simp only [DataW.weights, hT, List.mem_cons, List.mem_append]
        refine .inr (.inl (weights_all (d := D i) (List.mem_map.2 ⟨i, by simpa using hi, rfl⟩) _ ?_))
        rw [e1]; simp [DataW.weights])
      have e2 : f.size = f.data.toList.length := (Array.length_toList).symm
      unfold reachBytes at this
      omega)
    have g : ∀ i, i < len → ((List.range len).map F).getD i default = F i := fun i hi => by simp [hi]
    refine ⟨(List.range len).map F, ⟨by simp, by omega, ?_, ?_⟩, (fun e => by cases e), hl, hm⟩
    · intro f hf
      simp at hf
      obtain ⟨i, hi, rfl⟩ := hf
      exact (hF i hi).1
    · by_cases h0 : len = 0
      · exact .inl h0
      · have h00 := (hF 0 (by omega)).2
        have e0 : y.add 0 = y := by simp [Addr.add]
        rw [e0] at h00
        obtain ⟨b, o, rfl, hlt⟩ := addr_of h00
        refine .inr ⟨b, o, rfl, hlt, fun i hi => ?_⟩
        rw [g i hi]
        have := (hF i hi).2
        rw [Go.Addr.add_lit] at this
        exact this

theorem open_rowsT {TT T t bt e : TypeId} {fs : Array Field} {fuel : Nat} {a : Option Addr} {len cap : Nat} {x : DataW H × List MemPlace}
    (hTT : P.underlying TT = some (.slice T)) (hcT : P.cellsOf T = 1) (hbT : P.bytesOf T = 24) (hT : P.underlying T = some (.slice t)) (ht : P.underlying t = some (.struct fs)) (hfs : fs.toList.map (fun f => (f.type, f.offset)) = [(bt, 0), (e, 1)]) (hb : P.underlying bt = some .bool) (he : P.underlying e = some (.int .i64)) (hcb : P.cellsOf bt = 1) (hce : P.cellsOf e = 1) (hct : P.cellsOf t = 2) (hby : P.bytesOf t = 16)
    (h : DataW.trod enc P W base sp held fuel TT [.slice a len cap] = some x) (hs : ∀ n ∈ x.1.weights P TT, n ≤ reachBytes) :
    ∃ rs, RL W a len rs ∧ (a = none → len = 0 ∧ cap = 0) ∧ len ≤ cap ∧ cap ≤ maxLen := by
  rcases open_slice1 hTT hcT h with ⟨h0, _⟩ | ⟨y, l, c, m, n, V, D, Pl, h0, hbb, hl, hm, hmm, xe, hx⟩
  · simp at h0
    obtain ⟨rfl, rfl, rfl⟩ := h0
    exact ⟨[], ⟨rfl, by omega, (fun c hc => by cases hc), .inl rfl⟩, fun _ => ⟨rfl, rfl⟩, Nat.le_refl _, by unfold maxLen; omega⟩
  · simp at h0
    obtain ⟨rfl, rfl, rfl⟩ := h0
    have hlm : len ≤ m := by rw [hmm]; split <;> omega
    have hsz := hs ((((List.range len).map D).length + ((List.range (m - len)).map fun j => D (len + j)).length) * P.bytesOf T) (by rw [xe]; simp [DataW.weights, hTT])
    simp [hbT, reachBytes] at hsz
    obtain ⟨F, hF⟩ := choose_lt (α := Rw) (n := len) (p := fun i r => (RC W r.a r.n r.cs ∧ (r.a = none → r.n = 0 ∧ r.cap = 0) ∧ r.n ≤ r.cap ∧ r.cap ≤ maxLen) ∧ W.cell? (y.add i) = some (.slice r.a r.n r.cap)) (fun i hi => by
      obtain ⟨h1, h2⟩ := hx i (by omega)
      obtain ⟨a', l', c', ev⟩ : ∃ a' l' c', V i = .slice a' l' c' := by
        rcases open_slice hT h2 with ⟨q, _⟩ | ⟨y', l', c', _, _, _, _, q, _⟩
        · simp at q; exact ⟨_, _, _, q⟩
        · simp at q; exact ⟨_, _, _, q⟩
      rw [ev] at h1 h2
      obtain ⟨cs, hc⟩ := open_cells hT ht hfs hb he hcb hce hct hby h2 (fun n hn => hs n (by
        rw [xe]
        simp only [DataW.weights, hTT, List.mem_cons, List.mem_append]
        exact .inr (.inl (weights_all (d := D i) (List.mem_map.2 ⟨i, by simpa using hi, rfl⟩) _ hn))))
      exact ⟨⟨a', l', c', cs⟩, hc, h1⟩)
    have g : ∀ i, i < len → ((List.range len).map F).getD i default = F i := fun i hi => by simp [hi]
    refine ⟨(List.range len).map F, ⟨by simp, by omega, ?_, ?_⟩, (fun e => by cases e), hl, hm⟩
    · intro f hf
      simp at hf
      obtain ⟨i, hi, rfl⟩ := hf
      exact (hF i hi).1
    · by_cases h0 : len = 0
      · exact .inl h0
      · have h00 := (hF 0 (by omega)).2
        have e0 : y.add 0 = y := by simp [Addr.add]
        rw [e0] at h00
        obtain ⟨b, o, rfl, hlt⟩ := addr_of h00
        refine .inr ⟨b, o, rfl, hlt, fun i hi => ?_⟩
        rw [g i hi]
        have := (hF i hi).2
        rw [Go.Addr.add_lit] at this
        exact this

/-- A table as it came in. -/
structure Tb where
  an : Option Addr
  ln : Nat
  cn : Nat
  ss : List ByteArray
  ar : Option Addr
  lr : Nat
  cr : Nat
  rs : List Rw
def Tb.val (t : Tb) : Value := .agg #[.slice t.an t.ln t.cn, .slice t.ar t.lr t.cr]
structure TbOk (w : World) (t : Tb) : Prop where
  nl : NL w t.an t.ln t.ss
  nn : t.an = none → t.ln = 0 ∧ t.cn = 0
  rl : RL w t.ar t.lr t.rs
  rn : t.ar = none → t.lr = 0 ∧ t.cr = 0
  nc : t.ln ≤ t.cn ∧ t.cn ≤ maxLen
  rc : t.lr ≤ t.cr ∧ t.cr ≤ maxLen
theorem TbOk.later {w w' : World} {t : Tb} (h : TbOk w t) (b : Below w.heap.size w w') : TbOk w' t := ⟨h.nl.later b, h.nn, h.rl.later b, h.rn, h.nc, h.rc⟩

theorem slice_form {T t : TypeId} {fuel : Nat} {v : Value} {x : DataW H × List MemPlace} (hT : P.underlying T = some (.slice t)) (h : DataW.trod enc P W base sp held fuel T [v] = some x) : ∃ a l c, v = .slice a l c := by
  rcases open_slice hT h with ⟨q, _⟩ | ⟨y', l', c', _, _, _, _, q, _⟩
  · simp at q; exact ⟨_, _, _, q⟩
  · simp at q; exact ⟨_, _, _, q⟩

theorem open_table {r : Reach} {b0 : Nat} {S N s TT T t bt e : TypeId} {fS fs : Array Field} {v : Value} {d : DataW H} {ps : List MemPlace}
    (hS : P.underlying S = some (.struct fS)) (hfS : fS.toList.map (fun f => (f.type, f.offset)) = [(N, 0), (TT, 1)]) (hcS : P.cellsOf S = 2) (hcN : P.cellsOf N = 1) (hcTT : P.cellsOf TT = 1)
    (hN : P.underlying N = some (.slice s)) (hs : P.underlying s = some .string) (hcs : P.cellsOf s = 1) (hbs : P.bytesOf s = 16)
    (hTT : P.underlying TT = some (.slice T)) (hcT : P.cellsOf T = 1) (hbT : P.bytesOf T = 24) (hT : P.underlying T = some (.slice t)) (ht : P.underlying t = some (.struct fs)) (hfs : fs.toList.map (fun f => (f.type, f.offset)) = [(bt, 0), (e, 1)]) (hb : P.underlying bt = some .bool) (he : P.underlying e = some (.int .i64)) (hcb : P.cellsOf bt = 1) (hce : P.cellsOf e = 1) (hct : P.cellsOf t = 2) (hby : P.bytesOf t = 16)
    (hok : Value.okWide P W r b0 S v) (h : DataW.Trod enc P W base sp held S v d ps) (hz : ∀ n ∈ d.weights P S, n ≤ reachBytes) :
    ∃ tb : Tb, v = tb.val ∧ TbOk W tb := by
  obtain ⟨cs, rfl, hsz⟩ := okWide_struct hS hok
  obtain ⟨fuel, hf⟩ := h
  obtain ⟨xs, n, _, hd, hl, hlen, hfld⟩ := DataW.trod_struct hS hf
  obtain ⟨l⟩ := cs
  simp only [Value.cells] at hl hfld
  rw [hcS] at hl
  obtain ⟨c0, c1, rfl⟩ : ∃ a b, l = [a, b] := by
    match l, hl with
    | [a, b], _ => exact ⟨a, b, rfl⟩
  have h3 : fS.size = 2 := by have := congrArg List.length hfS; simpa using this
  have fat : ∀ i (hi : i < 2), ∃ f, fS[i]? = some f ∧ (f.type, f.offset) = [(N, 0), (TT, 1)][i] := fun i hi => by
    refine ⟨fS[i]'(by omega), by simp [show i < fS.size by omega], ?_⟩
    have : (fS.toList.map (fun f => (f.type, f.offset)))[i]? = [(N, 0), (TT, 1)][i]? := by rw [hfS]
    simpa [show i < fS.size by omega, hi] using this
  have ex : ∀ i, i < 2 → ∃ y, xs[i]? = some y := fun i hi => ⟨xs[i]'(by omega), by simp [show i < xs.length by omega]⟩
  obtain ⟨f0, g0, e0⟩ := fat 0 (by omega)
  obtain ⟨f1, g1, e1⟩ := fat 1 (by omega)
  obtain ⟨y0, q0⟩ := ex 0 (by omega)
  obtain ⟨y1, q1⟩ := ex 1 (by omega)
  have k0 := hfld 0 f0 g0
  have k1 := hfld 1 f1 g1
  simp only [List.getElem_cons_zero, List.getElem_cons_succ, Prod.mk.injEq] at e0 e1
  rw [q0, e0.1, e0.2, hcN] at k0
  rw [q1, e1.1, e1.2, hcTT] at k1
  simp at k0 k1
  have hd1 : d = .agg (xs.map (·.1)) := by have := congrArg Prod.fst hd; simpa using this
  have tys : fS.toList.map (·.type) = [N, TT] := by
    have := congrArg (List.map Prod.fst) hfS
    simpa [List.map_map, Function.comp_def] using this
  have wz : ∀ n ∈ DataW.weightsEach P [N, TT] (xs.map (·.1)), n ≤ reachBytes := fun n hn => hz n (by rw [hd1]; simp only [DataW.weights, hS, tys]; exact hn)
  have z0 : ∀ n ∈ y0.1.weights P N, n ≤ reachBytes := fun n hn => wz n (DataW.weights_mem_each (j := 0) rfl (by simp [q0]) n hn)
  have z1 : ∀ n ∈ y1.1.weights P TT, n ≤ reachBytes := fun n hn => wz n (DataW.weights_mem_each (j := 1) rfl (by simp [q1]) n hn)
  obtain ⟨an, ln, cn, rfl⟩ := slice_form hN k0
  obtain ⟨ar, lr, cr, rfl⟩ := slice_form hTT k1
  obtain ⟨ss, p1, p2, p3, p4⟩ := open_names hN hs hcs hbs k0 z0
  obtain ⟨rs, r1, r2, r3, r4⟩ := open_rowsT hTT hcT hbT hT ht hfs hb he hcb hce hct hby k1 z1
  exact ⟨⟨an, ln, cn, ss, ar, lr, cr, rs⟩, rfl, p1, p2, r1, r2, ⟨p3, p4⟩, r3, r4⟩
end
end Go.Proofs.YtldplmchgmoopaaDoor

namespace Go.Proofs.YtldplmchgmoopaaDoor
open Go.RowKit
set_option linter.unusedVariables false
set_option linter.unusedSimpArgs false

theorem retT_bool {a b : Bool} (h : a = b) : Ending.returned (.bool a) = .returned (.bool b) := by rw [h]
theorem retT_int {k : IntKind} {a b : Int} (h : a = b) : Ending.returned (.int k a) = .returned (.int k b) := by rw [h]
def at8 (s : ByteArray) (i : Nat) : Int := if h : i < s.size then (s[i].toNat : Int) else 0
theorem at8_lt {s : ByteArray} {i : Nat} (h : i < s.size) : at8 s i = (s[i].toNat : Int) := by unfold at8; rw [dif_pos h]
def upB (c : Int) : Bool := decide (65 ≤ c ∧ c ≤ 90)
def dgB (c : Int) : Bool := decide (48 ≤ c ∧ c ≤ 57)
def okB (c : Int) : Bool := upB c || dgB c || decide (c = 95)
/-- A capital name. -/
def nameB (s : ByteArray) : Bool := decide (1 ≤ s.size ∧ s.size ≤ 31) && (upB (at8 s 0) && (List.range s.size).all fun i => okB (at8 s i))
theorem name_size {s : ByteArray} (h : ¬ (1 ≤ s.size ∧ s.size ≤ 31)) : nameB s = false := by unfold nameB; rw [decide_eq_false h, Bool.false_and]
theorem name_first {s : ByteArray} (h : upB (at8 s 0) = false) : nameB s = false := by unfold nameB; rw [h]; simp
theorem name_bad {s : ByteArray} {i : Nat} (hi : i < s.size) (h : okB (at8 s i) = false) : nameB s = false := by
  unfold nameB
  rw [Bool.and_eq_false_iff]; right
  rw [Bool.and_eq_false_iff]; right
  rw [List.all_eq_false]
  exact ⟨i, List.mem_range.2 hi, by rw [h]; simp⟩
theorem name_good {s : ByteArray} (h : 1 ≤ s.size ∧ s.size ≤ 31) (h0 : upB (at8 s 0) = true) (k : ∀ i, i < s.size → okB (at8 s i) = true) : nameB s = true := by
  unfold nameB
  rw [decide_eq_true h, h0, Bool.true_and, Bool.true_and, List.all_eq_true]
  exact fun i hi => k i (List.mem_range.1 hi)
theorem ok_up {c : Int} (h : upB c = true) : okB c = true := by unfold okB; rw [h]; rfl
theorem ok_dg {c : Int} (h : dgB c = true) : okB c = true := by unfold okB; rw [h]; simp
theorem ok_us {c : Int} (h : c = 95) : okB c = true := by unfold okB; rw [decide_eq_true h]; simp
theorem ok_no {c : Int} (h : upB c = false) (h2 : dgB c = false) (h3 : ¬ c = 95) : okB c = false := by unfold okB; rw [h, h2, decide_eq_false h3]; rfl

theorem isCapT_any (c : Int) (w : World) : Calls Tryd.prog 42 #[.int .u8 c] w fun e w' => e = .returned (.bool (upB c)) ∧ w' = w := by
  go_enter Tryd.func42, Tryd.ntmps42
  go_wp2
  all_goals go_ret
  all_goals refine ⟨retT_bool ?_, rfl⟩
  all_goals (unfold upB; first | (simp_all; done) | (simp_all; omega))
theorem isDigT_any (c : Int) (w : World) : Calls Tryd.prog 43 #[.int .u8 c] w fun e w' => e = .returned (.bool (dgB c)) ∧ w' = w := by
  go_enter Tryd.func43, Tryd.ntmps43
  go_wp2
  all_goals go_ret
  all_goals refine ⟨retT_bool ?_, rfl⟩
  all_goals (unfold dgB; first | (simp_all; done) | (simp_all; omega))

set_option maxHeartbeats 2000000 in
theorem isCapName_any (s : ByteArray) (w : World) (hs : s.size ≤ 140737488351232) : Calls Tryd.prog 30 #[.string s] w fun e w' => e = .returned (.bool (nameB s)) ∧ w' = w := by
  by_cases h0 : s.size = 0
  · have es : s = ⟨#[]⟩ := by
      obtain ⟨d⟩ := s
      have : d = #[] := Array.eq_empty_of_size_eq_zero h0
      rw [this]
    subst es
    go_enter Tryd.func30, Tryd.ntmps30
    go_wp2
    go_ret
    exact ⟨rfl, rfl⟩
  · have ne : s.toList.isEmpty = false := by
      rw [Go.ByteArray.toList_eq]
      cases e : s.data.toList with
      | nil =>
        exfalso
        have := congrArg List.length e
        simp at this
        exact h0 (by rw [this]; rfl)
      | cons c l => rfl
    by_cases h1 : s.size ≤ 31
    · have h2 : ¬ (31 : Int) < (s.size : Int) := by omega
      have hp : 0 < s.size := by omega
      have E0 := Lib.hid (at8_lt hp)
      obtain ⟨B, hB⟩ : ∃ B, nameB s = B := ⟨_, rfl⟩
      have HB := Lib.hid hB
      rw [hB]; clear hB
      cases c0 : upB (s[0].toNat : Int) with
      | false =>
        have NO := Lib.hid (p := false = B) (by rw [← HB.out, name_first (by rw [E0.out]; exact c0)])
        go_enter Tryd.func30, Tryd.ntmps30
        go_wp2_with (go_at_call 42; refine (isCapT_any _ _).mono ?_; rintro e w' ⟨rfl, rfl⟩; rw [c0])
        go_ret
        exact ⟨retT_bool NO.out, rfl⟩
      | true =>
        have Y0 := Lib.hid (p := upB (at8 s 0) = true) (by rw [E0.out]; exact c0)
        go_enter Tryd.func30, Tryd.ntmps30
        go_wp2_with (go_at_call 42; refine (isCapT_any _ _).mono ?_; rintro e w' ⟨rfl, rfl⟩; rw [c0])
        go_loop [19] (fun t => ∃ k : Nat, k ≤ s.size ∧ t = .int .i64 k ∧ RowKit.Hid (∀ i, i < k → okB (at8 s i) = true)) (fun t => s.size - (intOf t).toNat)
        case atStart => exact ⟨0, by omega, rfl, fun i hi => absurd hi (by omega)⟩
        case round =>
          obtain ⟨k, hk, rfl, hN⟩ := hrel
          by_cases hlt : k < s.size
          · have E := Lib.hid (at8_lt hlt)
            have NX := Lib.hid (p := okB (at8 s k) = true → ∀ i, i < k + 1 → okB (at8 s i) = true) (fun g i hi => by
              rcases (show i < k ∨ i = k by omega) with q | q
              · exact hN.out i q
              · rw [q]; exact g)
            have NO := Lib.hid (p := okB (at8 s k) = false → false = B) (fun g => by rw [← HB.out, name_bad hlt g])
            have kc : (k : Int) < (s.size : Int) := by omega
            clear c0
            cases c : upB (s[k].toNat : Int) with
            | true =>
              have OK := Lib.hid (p := okB (at8 s k) = true) (by rw [E.out]; exact ok_up c)
              go_wp2_with (go_at_call 42; refine (isCapT_any _ _).mono ?_; rintro e w' ⟨rfl, rfl⟩; rw [c])
              go_round
              case rel => exact ⟨k + 1, by omega, by go_num, NX.out OK.out⟩
              case measure => simp [intOf]; omega
            | false =>
              cases d : dgB (s[k].toNat : Int) with
              | true =>
                have OK := Lib.hid (p := okB (at8 s k) = true) (by rw [E.out]; exact ok_dg d)
                go_wp2_with (first
                  | (go_at_call 42; refine (isCapT_any _ _).mono ?_; rintro e w' ⟨rfl, rfl⟩; rw [c])
                  | (go_at_call 43; refine (isDigT_any _ _).mono ?_; rintro e w' ⟨rfl, rfl⟩; rw [d]))
                go_round
                case rel => exact ⟨k + 1, by omega, by go_num, NX.out OK.out⟩
                case measure => simp [intOf]; omega
              | false =>
                by_cases u : (s[k].toNat : Int) = 95
                · have OK := Lib.hid (p := okB (at8 s k) = true) (by rw [E.out]; exact ok_us u)
                  have u1 : ((s[k].toNat : Int) != 95) = false := by rw [u]; rfl
                  have u2 : ((s[k].toNat : Int) == 95) = true := by rw [u]; rfl
                  clear u
                  go_wp2_with (first
                    | (go_at_call 42; refine (isCapT_any _ _).mono ?_; rintro e w' ⟨rfl, rfl⟩; rw [c])
                    | (go_at_call 43; refine (isDigT_any _ _).mono ?_; rintro e w' ⟨rfl, rfl⟩; rw [d]))
                  go_round
                  case rel => exact ⟨k + 1, by omega, by go_num, NX.out OK.out⟩
                  case measure => simp [intOf]; omega
                · have OK := Lib.hid (p := okB (at8 s k) = false) (by rw [E.out]; exact ok_no c d u)
                  go_wp2_with (first
                    | (go_at_call 42; refine (isCapT_any _ _).mono ?_; rintro e w' ⟨rfl, rfl⟩; rw [c])
                    | (go_at_call 43; refine (isDigT_any _ _).mono ?_; rintro e w' ⟨rfl, rfl⟩; rw [d]))
                  go_ret
                  exact ⟨retT_bool (NO.out OK.out), rfl⟩
          · obtain rfl : k = s.size := by omega
            go_wp2
            go_ret
            exact ⟨retT_bool (by rw [← HB.out, name_good ⟨by omega, h1⟩ Y0.out hN.out]), rfl⟩
    · rw [name_size (by omega)]
      have h2 : (31 : Int) < (s.size : Int) := by omega
      go_enter Tryd.func30, Tryd.ntmps30
      go_wp2
      go_ret
      exact ⟨rfl, rfl⟩

set_option maxHeartbeats 2000000 in
theorem rCapital_any (s : ByteArray) (w : World) (hs : s.size ≤ 140737488351232) : Calls Tryd.prog 24 #[.string s] w fun e w' => e = .returned (.bool (nameB s)) ∧ w' = w := by
  by_cases h : 1 ≤ s.size ∧ s.size ≤ 31
  · obtain ⟨ha, hb⟩ := h
    have h1 : ¬ (s.size : Int) < 1 := by omega
    have h2 : ¬ (31 : Int) < (s.size : Int) := by omega
    obtain ⟨B, hB⟩ : ∃ B, nameB s = B := ⟨_, rfl⟩
    have HB := Lib.hid hB
    rw [hB]; clear hB
    go_enter Tryd.func24, Tryd.ntmps24
    go_wp2
    go_loop [3] (fun t => ∃ k : Nat, k ≤ s.size ∧ t = .int .i64 k ∧ RowKit.Hid ((∀ i, i < k → okB (at8 s i) = true) ∧ (0 < k → upB (at8 s 0) = true))) (fun t => s.size - (intOf t).toNat)
    case atStart => exact ⟨0, by omega, rfl, fun i hi => absurd hi (by omega), fun h => absurd h (by omega)⟩
    case round =>
      obtain ⟨k, hk, rfl, hN⟩ := hrel
      by_cases hlt : k < s.size
      · have E := Lib.hid (at8_lt hlt)
        have NX := Lib.hid (p := okB (at8 s k) = true → (k = 0 → upB (at8 s 0) = true) → (∀ i, i < k + 1 → okB (at8 s i) = true) ∧ (0 < k + 1 → upB (at8 s 0) = true)) (fun g g0 => ⟨fun i hi => by
          rcases (show i < k ∨ i = k by omega) with q | q
          · exact hN.out.1 i q
          · rw [q]; exact g, fun _ => by
          rcases (show k = 0 ∨ 0 < k by omega) with q | q
          · exact g0 q
          · exact hN.out.2 q⟩)
        have NO := Lib.hid (p := okB (at8 s k) = false → false = B) (fun g => by rw [← HB.out, name_bad hlt g])
        have NF := Lib.hid (p := upB (at8 s 0) = false → false = B) (fun g => by rw [← HB.out, name_first g])
        have kc : (k : Int) < (s.size : Int) := by omega
        have UP : upB (at8 s k) = upB (s[k].toNat : Int) := by rw [E.out]
        have OKK : okB (at8 s k) = okB (s[k].toNat : Int) := by rw [E.out]
        have HU := Lib.hid UP
        have HO := Lib.hid OKK
        clear UP OKK
        by_cases a : 65 ≤ (s[k].toNat : Int) ∧ (s[k].toNat : Int) ≤ 90
        · obtain ⟨a1, a2⟩ := a
          have OK := Lib.hid (p := okB (at8 s k) = true) (by rw [HO.out]; exact ok_up (decide_eq_true ⟨a1, a2⟩))
          have U0 := Lib.hid (p := k = 0 → upB (at8 s 0) = true) (fun e => by subst e; rw [HU.out]; exact decide_eq_true ⟨a1, a2⟩)
          go_wp2
          all_goals
            go_round
            case rel => exact ⟨k + 1, by omega, by go_num, NX.out OK.out U0.out⟩
            case measure => simp [intOf]; omega
        · have NU := Lib.hid (p := upB (at8 s k) = false) (by rw [HU.out]; exact decide_eq_false a)
          by_cases k0 : k = 0
          · subst k0
            rcases (show (s[0].toNat : Int) < 65 ∨ 90 < (s[0].toNat : Int) by omega) with g | g
            · have z1 : ¬ 65 ≤ (s[0].toNat : Int) := by omega
              clear a g
              go_wp2
              all_goals go_ret
              all_goals exact ⟨retT_bool (NF.out NU.out), rfl⟩
            · have z1 : 65 ≤ (s[0].toNat : Int) := by omega
              have z2 : ¬ (s[0].toNat : Int) ≤ 90 := by omega
              have z3 : decide ((s[0].toNat : Int) ≤ 90) = false := decide_eq_false z2
              have z4 : 48 ≤ (s[0].toNat : Int) := by omega
              have z5 : decide ((s[0].toNat : Int) ≤ 57) = false := decide_eq_false (by omega)
              clear a g
              go_wp2
              all_goals go_ret
              all_goals exact ⟨retT_bool (NF.out NU.out), rfl⟩
          · by_cases b : (48 ≤ (s[k].toNat : Int) ∧ (s[k].toNat : Int) ≤ 57) ∨ (s[k].toNat : Int) = 95
            · have OK := Lib.hid (p := okB (at8 s k) = true) (by
                rw [HO.out]
                rcases b with b | b
                · exact ok_dg (decide_eq_true b)
                · exact ok_us b)
              have U0 := Lib.hid (p := k = 0 → upB (at8 s 0) = true) (fun e => absurd e k0)
              have kz : ¬ (k : Int) = 0 := by omega
              rcases b with ⟨b1, b2⟩ | b
              · have q1 : ¬ 65 ≤ (s[k].toNat : Int) := by omega
                clear a
                go_wp2
                all_goals
                  go_round
                  case rel => exact ⟨k + 1, by omega, by go_num, NX.out OK.out U0.out⟩
                  case measure => simp [intOf]; omega
              · have q1 : 65 ≤ (s[k].toNat : Int) := by omega
                have q2 : ¬ (s[k].toNat : Int) ≤ 90 := by omega
                have q3 : 48 ≤ (s[k].toNat : Int) := by omega
                have q4 : ¬ (s[k].toNat : Int) ≤ 57 := by omega
                clear a
                go_wp2
                all_goals
                  go_round
                  case rel => exact ⟨k + 1, by omega, by go_num, NX.out OK.out U0.out⟩
                  case measure => simp [intOf]; omega
            · have OK := Lib.hid (p := okB (at8 s k) = false) (by
                rw [HO.out]
                exact ok_no (decide_eq_false a) (decide_eq_false (fun q => b (.inl q))) (fun q => b (.inr q)))
              have kz : ¬ (k : Int) = 0 := by omega
              have u : ((s[k].toNat : Int) == 95) = false := by
                rw [beq_eq_false_iff_ne]; exact fun q => b (.inr q)
              have u2 : ¬ (s[k].toNat : Int) = 95 := fun q => b (.inr q)
              rcases (show (s[k].toNat : Int) < 48 ∨ (57 < (s[k].toNat : Int) ∧ (s[k].toNat : Int) < 65) ∨ 90 < (s[k].toNat : Int) by omega) with g | ⟨g, g'⟩ | g
              · have z1 : ¬ 65 ≤ (s[k].toNat : Int) := by omega
                have z2 : ¬ 48 ≤ (s[k].toNat : Int) := by omega
                clear a b g
                go_wp2
                all_goals go_ret
                all_goals exact ⟨retT_bool (NO.out OK.out), rfl⟩
              · have z1 : ¬ 65 ≤ (s[k].toNat : Int) := by omega
                have z2 : 48 ≤ (s[k].toNat : Int) := by omega
                have z3 : decide ((s[k].toNat : Int) ≤ 57) = false := decide_eq_false (by omega)
                have z4 : ¬ (s[k].toNat : Int) ≤ 57 := by omega
                clear a b g g'
                go_wp2
                all_goals go_ret
                all_goals exact ⟨retT_bool (NO.out OK.out), rfl⟩
              · have z1 : 65 ≤ (s[k].toNat : Int) := by omega
                have z2 : 48 ≤ (s[k].toNat : Int) := by omega
                have z3 : decide ((s[k].toNat : Int) ≤ 57) = false := decide_eq_false (by omega)
                have z4 : decide ((s[k].toNat : Int) ≤ 90) = false := decide_eq_false (by omega)
                have z5 : ¬ (s[k].toNat : Int) ≤ 57 := by omega
                have z6 : ¬ (s[k].toNat : Int) ≤ 90 := by omega
                clear a b g
                go_wp2
                all_goals go_ret
                all_goals exact ⟨retT_bool (NO.out OK.out), rfl⟩
      · obtain rfl : k = s.size := by omega
        go_wp2
        go_ret
        exact ⟨retT_bool (by rw [← HB.out, name_good ⟨ha, hb⟩ (hN.out.2 (by omega)) hN.out.1]), rfl⟩
  · rw [name_size h]
    rcases (show s.size < 1 ∨ 31 < s.size by omega) with q | q
    · have h1 : (s.size : Int) < 1 := by omega
      go_enter Tryd.func24, Tryd.ntmps24
      go_wp2
      go_ret
      exact ⟨rfl, rfl⟩
    · have h1 : ¬ (s.size : Int) < 1 := by omega
      have h2 : (31 : Int) < (s.size : Int) := by omega
      go_enter Tryd.func24, Tryd.ntmps24
      go_wp2
      go_ret
      exact ⟨rfl, rfl⟩
end Go.Proofs.YtldplmchgmoopaaDoor

namespace Go.Proofs.YtldplmchgmoopaaDoor
open Go.RowKit
set_option linter.unusedVariables false
set_option linter.unusedSimpArgs false

theorem RC.drewN {w : World} {a n cs} (h : RC w a n cs) (q : Nat) : RC (w.drewN q) a n cs := h
theorem NL.drewN {w : World} {a n cs} (h : NL w a n cs) (q : Nat) : NL (w.drewN q) a n cs := h
theorem RL.drewN {w : World} {a n cs} (h : RL w a n cs) (q : Nat) : RL (w.drewN q) a n cs := h

set_option maxHeartbeats 2000000 in
theorem sameNames_any (a b : Option Addr) (n c1 c2 : Nat) (ss : List ByteArray) (w : World) (h : NL w a n ss) (h' : NL w b n ss) :
    Calls Tryd.prog 18 #[.slice a n c1, .slice b n c2] w fun e w' => e = .returned (.bool true) ∧ ∃ q, w' = w.drewN q := by
  obtain ⟨hl, hn, _, h3⟩ := h
  obtain ⟨_, _, _, h3'⟩ := h'
  have HA := Lib.hid (p := 0 < n → ∃ x o y p, a = some ⟨x, o, none⟩ ∧ b = some ⟨y, p, none⟩ ∧ ∀ i, i < n → w.cell? ⟨x, o + i, none⟩ = some (.string (ss.getD i default)) ∧ w.cell? ⟨y, p + i, none⟩ = some (.string (ss.getD i default))) (fun h0 => by
    rcases h3 with h3 | ⟨x, o, e1, _, h3⟩
    · omega
    · rcases h3' with h3' | ⟨y, p, e2, _, h3'⟩
      · omega
      · exact ⟨x, o, y, p, e1, e2, fun i hi => ⟨h3 i hi, h3' i hi⟩⟩)
  clear h3 h3' hl
  go_enter Tryd.func18, Tryd.ntmps18
  go_wp2
  go_loopw [5] (fun t wr => ∃ k : Nat, k ≤ n ∧ t = .int .i64 k ∧ ∃ q, wr = w.drewN q) (fun t _ => n - (intOf t).toNat)
  case atStart => exact ⟨0, by omega, rfl, 0, rfl⟩
  case round =>
    obtain ⟨k, hk, rfl, q, rfl⟩ := hrel
    by_cases hlt : k < n
    · obtain ⟨x, o, y, p, rfl, rfl, hc⟩ := HA.out (by omega)
      obtain ⟨c0, d0⟩ := hc k hlt
      have kc : (k : Int) < (n : Int) := by omega
      generalize ss.getD k default = f at *
      clear hc
      go_wp2
      go_region
      all_goals
        go_wp2
        go_roundw
        case rel => exact ⟨k + 1, by omega, by go_num, _, rfl⟩
        case measure => simp [intOf]; omega
    · obtain rfl : k = n := by omega
      go_wp2
      go_ret
      exact ⟨rfl, _, rfl⟩

set_option maxHeartbeats 2000000 in
theorem sameRow_any (a b : Option Addr) (n c1 c2 : Nat) (ss : List Cl) (w : World) (h : RC w a n ss) (h' : RC w b n ss) :
    Calls Tryd.prog 35 #[.slice a n c1, .slice b n c2] w fun e w' => e = .returned (.bool true) ∧ ∃ q, w' = w.drewN q := by
  obtain ⟨hl, hn, _, h3⟩ := h
  obtain ⟨_, _, _, h3'⟩ := h'
  have HA := Lib.hid (p := 0 < n → ∃ x o y p, a = some ⟨x, o, none⟩ ∧ b = some ⟨y, p, none⟩ ∧ ∀ i, i < n → CC w x (o + i * 2) (ss.getD i default) ∧ CC w y (p + i * 2) (ss.getD i default)) (fun h0 => by
    rcases h3 with h3 | ⟨x, o, e1, _, h3⟩
    · omega
    · rcases h3' with h3' | ⟨y, p, e2, _, h3'⟩
      · omega
      · exact ⟨x, o, y, p, e1, e2, fun i hi => ⟨h3 i hi, h3' i hi⟩⟩)
  clear h3 h3' hl
  go_enter Tryd.func35, Tryd.ntmps35
  go_wp2
  go_loopw [5] (fun t wr => ∃ k : Nat, k ≤ n ∧ t = .int .i64 k ∧ ∃ q, wr = w.drewN q) (fun t _ => n - (intOf t).toNat)
  case atStart => exact ⟨0, by omega, rfl, 0, rfl⟩
  case round =>
    obtain ⟨k, hk, rfl, q, rfl⟩ := hrel
    by_cases hlt : k < n
    · obtain ⟨x, o, y, p, rfl, rfl, hc⟩ := HA.out (by omega)
      obtain ⟨⟨c0, c1⟩, d0, d1⟩ := hc k hlt
      have kc : (k : Int) < (n : Int) := by omega
      generalize ss.getD k default = f at *
      obtain ⟨fh, fv⟩ := f
      simp only at c0 c1 d0 d1
      clear hc
      go_wp2
      go_region
      all_goals
        go_wp2
        go_roundw
        case rel => exact ⟨k + 1, by omega, by go_num, _, rfl⟩
        case measure => simp [intOf]; omega
    · obtain rfl : k = n := by omega
      go_wp2
      go_ret
      exact ⟨rfl, _, rfl⟩

set_option maxHeartbeats 2000000 in
theorem sameRows_any (a b : Option Addr) (n c1 c2 : Nat) (rs qs : List Rw) (w : World) (h : RL w a n rs) (h' : RL w b n qs) (he : rs.map (·.cs) = qs.map (·.cs)) :
    Calls Tryd.prog 19 #[.slice a n c1, .slice b n c2] w fun e w' => e = .returned (.bool true) ∧ ∃ q, w' = w.drewN q := by
  obtain ⟨hl, hn, hr, h3⟩ := h
  obtain ⟨hl', _, hr', h3'⟩ := h'
  have HA := Lib.hid (p := 0 < n → ∃ x o y p, a = some ⟨x, o, none⟩ ∧ b = some ⟨y, p, none⟩ ∧ ∀ i, i < n → ∃ a1 a2 m d1 d2, w.cell? ⟨x, o + i, none⟩ = some (.slice a1 m d1) ∧ w.cell? ⟨y, p + i, none⟩ = some (.slice a2 m d2) ∧ ∃ cs, RC w a1 m cs ∧ RC w a2 m cs) (fun h0 => by
    rcases h3 with h3 | ⟨x, o, e1, _, h3⟩
    · omega
    · rcases h3' with h3' | ⟨y, p, e2, _, h3'⟩
      · omega
      · refine ⟨x, o, y, p, e1, e2, fun i hi => ?_⟩
        have k1 := h3 i hi
        have k2 := h3' i hi
        have i1 : i < rs.length := by omega
        have i2 : i < qs.length := by omega
        have g1 : rs.getD i default = rs[i] := by simp [List.getD, i1]
        have g2 : qs.getD i default = qs[i] := by simp [List.getD, i2]
        rw [g1] at k1
        rw [g2] at k2
        have q1 := (hr _ (List.getElem_mem i1)).1
        have q2 := (hr' _ (List.getElem_mem i2)).1
        have ec : rs[i].cs = qs[i].cs := by
          have := congrArg (fun l => l[i]?) he
          simpa [i1, i2] using this
        have en : rs[i].n = qs[i].n := by rw [← q1.1, ← q2.1, ec]
        rw [← en] at k2 q2
        rw [← ec] at q2
        exact ⟨_, _, _, _, _, k1, k2, _, q1, q2⟩)
  clear h3 h3' hl hl' hr hr' he
  go_enter Tryd.func19, Tryd.ntmps19
  go_wp2
  go_loopw [5] (fun t wr => ∃ k : Nat, k ≤ n ∧ t = .int .i64 k ∧ ∃ q, wr = w.drewN q) (fun t _ => n - (intOf t).toNat)
  case atStart => exact ⟨0, by omega, rfl, 0, rfl⟩
  case round =>
    obtain ⟨k, hk, rfl, q, hq⟩ := hrel
    have HQ := Lib.hid hq
    by_cases hlt : k < n
    · obtain ⟨x, o, y, p, rfl, rfl, hc⟩ := HA.out (by omega)
      obtain ⟨a1, a2, m, d1, d2, c0, c1, cs, r1, r2⟩ := hc k hlt
      rw [← World.cell?_drewN (n := q), ← hq] at c0 c1
      have r1 := r1.drewN q
      have r2 := r2.drewN q
      rw [← hq] at r1 r2
      have KS := Lib.hid (fun C D W (h : RC W a1 m cs) (h' : RC W a2 m cs) => sameRow_any a1 a2 m C D cs W h h')
      have R1 := Lib.hid r1
      have R2 := Lib.hid r2
      have kc : (k : Int) < (n : Int) := by omega
      clear hc r1 r2 hq
      go_wp2
      go_quiet (first | (go_at_call 35; exact Calls.quiet_of (KS.out _ _ _ (R1.out.drewN _) (R2.out.drewN _))))
      go_wp2
      go_roundw
      case rel => exact ⟨k + 1, by omega, by go_num, _, by rw [HQ.out]; exact World.drewN_drewN _ _ _⟩
      case measure => simp [intOf]; omega
    · obtain rfl : k = n := by omega
      clear hq
      go_wp2
      go_ret
      exact ⟨rfl, _, HQ.out⟩
end Go.Proofs.YtldplmchgmoopaaDoor

namespace Go.Proofs.YtldplmchgmoopaaDoor
open Go.RowKit
set_option linter.unusedVariables false
set_option linter.unusedSimpArgs false

/-- The place of the first of a list's names that is this one; -1: there is none. -/
def colF : List ByteArray → ByteArray → Nat → Int
  | [], _, _ => -1
  | x :: l, s, k => if x = s then (k : Int) else colF l s (k + 1)
def Col (ss : List ByteArray) (s : ByteArray) (r : Int) : Prop :=
  (r = -1 ∧ ∀ i, i < ss.length → ss.getD i default ≠ s) ∨ ∃ i : Nat, r = i ∧ i < ss.length ∧ ss.getD i default = s ∧ ∀ j, j < i → ss.getD j default ≠ s
theorem colF_is : ∀ (ss : List ByteArray) (s : ByteArray) (k : Nat), (colF ss s k = -1 ∧ ∀ i, i < ss.length → ss.getD i default ≠ s) ∨ ∃ i : Nat, colF ss s k = ((k + i : Nat) : Int) ∧ i < ss.length ∧ ss.getD i default = s ∧ ∀ j, j < i → ss.getD j default ≠ s
  | [], s, k => .inl ⟨rfl, fun i hi => absurd hi (by simp)⟩
  | x :: l, s, k => by
    by_cases h : x = s
    · exact .inr ⟨0, by simp [colF, h], by simp, by simp [h], fun j hj => absurd hj (by omega)⟩
    · rcases colF_is l s (k + 1) with ⟨h1, h2⟩ | ⟨i, h1, h2, h3, h4⟩
      · refine .inl ⟨by simp [colF, h, h1], fun i hi => ?_⟩
        match i, hi with
        | 0, _ => simpa using h
        | i + 1, hi => have := h2 i (by simpa using hi); simpa using this
      · refine .inr ⟨i + 1, by simp only [colF, h, if_false, h1]; omega, by simpa using h2, by simpa using h3, fun j hj => ?_⟩
        match j, hj with
        | 0, _ => simpa using h
        | j + 1, hj => have := h4 j (by omega); simpa using this
theorem colF_col (ss : List ByteArray) (s : ByteArray) : Col ss s (colF ss s 0) := by
  rcases colF_is ss s 0 with h | ⟨i, h, r⟩
  · exact .inl h
  · exact .inr ⟨i, by rw [h]; simp, r⟩
theorem Col.only {ss : List ByteArray} {s : ByteArray} {r q : Int} (h : Col ss s r) (k : Col ss s q) : r = q := by
  rcases h with ⟨rfl, h⟩ | ⟨i, rfl, h1, h2, h3⟩ <;> rcases k with ⟨rfl, k⟩ | ⟨j, rfl, k1, k2, k3⟩
  · rfl
  · exact absurd k2 (h j k1)
  · exact absurd h2 (k i h1)
  · rcases Nat.lt_trichotomy i j with q | q | q
    · exact absurd h2 (k3 i q)
    · rw [q]
    · exact absurd k2 (h3 j q)
theorem toList_ne {a b : ByteArray} (h : a ≠ b) : ¬ a.toList = b.toList := by
  rw [Go.ByteArray.toList_eq, Go.ByteArray.toList_eq]
  intro e
  apply h
  obtain ⟨⟨l⟩⟩ := a
  obtain ⟨⟨m⟩⟩ := b
  simp at e
  rw [e]

end Go.Proofs.YtldplmchgmoopaaDoor

namespace Go.Proofs.YtldplmchgmoopaaDoor
open Go.RowKit
set_option linter.unusedVariables false
set_option linter.unusedSimpArgs false

def stB (c : Cl) : Bool := !c.h && decide (c.v ≠ 0)
end Go.Proofs.YtldplmchgmoopaaDoor

namespace Go.Proofs.YtldplmchgmoopaaDoor
open Go.RowKit Go.Shelf
attribute [local go_sem] Oper.semAt_some
set_option linter.unusedVariables false
set_option linter.unusedSimpArgs false

/-- What the box and all below n₀ keep. -/
def KB (n₀ Bs : Nat) (W W' : World) : Prop := Below n₀ W W' ∧ W'.cell? ⟨Bs, 0, none⟩ = W.cell? ⟨Bs, 0, none⟩
theorem KB.trans {n₀ Bs : Nat} {A B C : World} (h : KB n₀ Bs A B) (k : KB n₀ Bs B C) : KB n₀ Bs A C := ⟨h.1.trans k.1, k.2.trans h.2⟩
theorem KB.put {n₀ Bs : Nat} {w : World} (hn : n₀ ≤ w.heap.size) (hb : Bs < w.heap.size) (W : World) (l : Nat) (o o' : Obj) (hl : w.heap.size ≤ l) (h : W.heap[l]? = some o) (h1 : o.isCells = false) (h2 : o.isWalk = false) : KB n₀ Bs W (W.putObj l o') :=
  ⟨belowK_b hn W l o o' hl h h1 h2, World.cell?_of_block (a := ⟨Bs, 0, none⟩) ((grownBy_putObj' W l o').block Bs (by have := (Array.getElem?_eq_some_iff.1 h).1; omega) (by simp; omega))⟩
end Go.Proofs.YtldplmchgmoopaaDoor

namespace Go.Proofs.YtldplmchgmoopaaDoor
open Go.RowKit Go.Shelf Go.Maps
attribute [local go_sem] Oper.semAt_some
set_option linter.unusedVariables false
set_option linter.unusedSimpArgs false

def litS (c : ByteArray) : Lit := .string c.data.toList
theorem litS_ne {c c' : ByteArray} (h : c' ≠ c) : litS c' ≠ litS c := fun e => h (by
  unfold litS at e
  injection e with e
  obtain ⟨⟨x⟩⟩ := c; obtain ⟨⟨y⟩⟩ := c'
  simp at e; rw [e])
theorem lawS : Keyed Tryd.prog 9 := string_keyed Tryd.underlying9
theorem keyS {c : ByteArray} (h : c.size ≤ 140737488351232) : keyOf Tryd.prog 9 (.string c) = some (litS c) := WideMaps.keyOf_string_mk Tryd.underlying9 (by unfold maxLen; omega)
theorem info3 : (Tryd.prog.info? 3).map (fun i => (i.zero, i.size, i.bytes)) = some (some (.int .i64 0), 1, 8) := by kernel_rfl
theorem grT_set (w : World) (p o : Nat) (v : Value) : w.grownBy (w.setCell ⟨p, o, none⟩ v) (some p) := by
  refine ⟨rfl, rfl, rfl, by simp, fun k hk hr => ?_⟩
  have : ¬ p = k := fun e => hr (by rw [e])
  simp [World.setCell, Array.getElem?_modify, this]

end Go.Proofs.YtldplmchgmoopaaDoor

namespace Go.Proofs.YtldplmchgmoopaaDoor
open Go.RowKit
set_option linter.unusedVariables false
set_option linter.unusedSimpArgs false

/-- One of the names stands there twice. -/
def dupB (ss : List ByteArray) : Bool := (List.range ss.length).any fun i => decide (colF ss (ss.getD i default) 0 ≠ i)
theorem dup_yes {ss : List ByteArray} {k : Nat} (hk : k < ss.length) (h : colF ss (ss.getD k default) 0 ≠ k) : dupB ss = true := by
  unfold dupB; rw [List.any_eq_true]; exact ⟨k, List.mem_range.2 hk, decide_eq_true h⟩
/-- What Valid tells. -/
def validE (ss : List ByteArray) (rs : List (List Cl)) : Int :=
  if rs.any (fun r => decide (r.length ≠ ss.length)) then 3 else
  if 64 < ss.length ∨ 4096 < rs.length then 6 else
  if !(ss.all nameB) || dupB ss then 52 else
  if rs.any (fun r => r.any stB) then 51 else 0
end Go.Proofs.YtldplmchgmoopaaDoor

namespace Go.Proofs.YtldplmchgmoopaaDoor
open Go.RowKit
set_option linter.unusedVariables false
set_option linter.unusedSimpArgs false

end Go.Proofs.YtldplmchgmoopaaDoor
