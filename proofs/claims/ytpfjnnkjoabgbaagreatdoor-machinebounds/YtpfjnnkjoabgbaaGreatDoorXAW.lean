import Derived.ProofKit
import Derived.OpenShut
import Derived.Deep.Slices
import Derived.SizedLaws
import Derived.Below
namespace Go.Proofs.YtpfjnnkjoabgbaaGreatDoor
open Go.ChangeShapes Go.WideShapes Go.ChangeAt Go.RowKit Go.Deep
set_option linter.unusedVariables false

/-- A cell: whether it has an observation, and its number. -/
structure Cl where
  h : Bool
  v : Int
  deriving Inhabited, DecidableEq
/-- A row as it lies in the list of rows, and what it holds. -/
structure Rw where
  a : Option Addr
  n : Nat
  cap : Nat
  cs : List Cl
  deriving Inhabited

def CC (w : World) (b o : Nat) (c : Cl) : Prop := w.cell? ⟨b, o, none⟩ = some (.bool c.h) ∧ w.cell? ⟨b, o + 1, none⟩ = some (.int .i64 c.v)
def RC (w : World) (a : Option Addr) (n : Nat) (cs : List Cl) : Prop :=
  cs.length = n ∧ n ≤ 8796093021952 ∧ (∀ c ∈ cs, (Lit.int .i64 c.v).wf = true) ∧ (n = 0 ∨ ∃ b o, a = some ⟨b, o, none⟩ ∧ b < w.heap.size ∧ ∀ i, i < n → CC w b (o + i * 2) (cs.getD i default))
def NL (w : World) (a : Option Addr) (n : Nat) (ss : List ByteArray) : Prop :=
  ss.length = n ∧ n ≤ 8796093021952 ∧ (∀ s ∈ ss, s.size ≤ 140737488351232) ∧ (n = 0 ∨ ∃ b o, a = some ⟨b, o, none⟩ ∧ b < w.heap.size ∧ ∀ i, i < n → w.cell? ⟨b, o + i, none⟩ = some (.string (ss.getD i default)))
def RL (w : World) (a : Option Addr) (n : Nat) (rs : List Rw) : Prop :=
  rs.length = n ∧ n ≤ 5864062014635 ∧ (∀ r ∈ rs, RC w r.a r.n r.cs ∧ (r.a = none → r.n = 0 ∧ r.cap = 0) ∧ r.n ≤ r.cap ∧ r.cap ≤ maxLen) ∧
    (n = 0 ∨ ∃ b o, a = some ⟨b, o, none⟩ ∧ b < w.heap.size ∧ ∀ i, i < n → w.cell? ⟨b, o + i, none⟩ = some (.slice (rs.getD i default).a (rs.getD i default).n (rs.getD i default).cap))

theorem CC.later {w w' : World} {B b o : Nat} {c : Cl} (h : CC w b o c) (hb : Below B w w') (hB : b < B) : CC w' b o c :=
  ⟨(hb.cell (p := ⟨b, o, none⟩) hB).trans h.1, (hb.cell (p := ⟨b, o + 1, none⟩) hB).trans h.2⟩
theorem RC.later {w w' : World} {a n cs} (h : RC w a n cs) (b : Below w.heap.size w w') : RC w' a n cs := by
  obtain ⟨h1, h2, h3, h4⟩ := h
  refine ⟨h1, h2, h3, ?_⟩
  rcases h4 with h4 | ⟨x, o, rfl, hx, hc⟩
  · exact .inl h4
  · exact .inr ⟨x, o, rfl, Nat.lt_of_lt_of_le hx b.size, fun i hi => (hc i hi).later b hx⟩
theorem NL.later {w w' : World} {a n ss} (h : NL w a n ss) (b : Below w.heap.size w w') : NL w' a n ss := by
  obtain ⟨h1, h2, h3, h4⟩ := h
  refine ⟨h1, h2, h3, ?_⟩
  rcases h4 with h4 | ⟨x, o, rfl, hx, hc⟩
  · exact .inl h4
  · exact .inr ⟨x, o, rfl, Nat.lt_of_lt_of_le hx b.size, fun i hi => by rw [b.cell (p := ⟨x, o + i, none⟩) hx]; exact hc i hi⟩
theorem RL.later {w w' : World} {a n rs} (h : RL w a n rs) (b : Below w.heap.size w w') : RL w' a n rs := by
  obtain ⟨h1, h2, h3, h4⟩ := h
  refine ⟨h1, h2, fun r hr => ⟨(h3 r hr).1.later b, (h3 r hr).2⟩, ?_⟩
  rcases h4 with h4 | ⟨x, o, rfl, hx, hc⟩
  · exact .inl h4
  · exact .inr ⟨x, o, rfl, Nat.lt_of_lt_of_le hx b.size, fun i hi => by rw [b.cell (p := ⟨x, o + i, none⟩) hx]; exact hc i hi⟩

theorem addr_of {w : World} {x : Addr} {v : Value} (h : w.cell? x = some v) : ∃ b o, x = ⟨b, o, none⟩ ∧ b < w.heap.size := by
  obtain ⟨b, o, s⟩ := x
  have hs : s = none := World.cell?_spot h
  subst hs
  refine ⟨b, o, rfl, ?_⟩
  by_cases hlt : b < w.heap.size
  · exact hlt
  · exfalso
    have hn : w.heap[b]? = none := by simp; omega
    simp [World.cell?, hn] at h
theorem addT_add (a : Addr) (m n : Nat) : (a.add m).add n = a.add (m + n) := by
  unfold Addr.add
  by_cases h1 : m = 0
  · subst h1; simp
  · by_cases h2 : n = 0
    · subst h2; simp
    · simp [h1, h2, Nat.add_assoc]
theorem weights_all {H : Type} {P : Program} {e : TypeId} {l : List (DataW H)} {d : DataW H} (h : d ∈ l) : ∀ n ∈ d.weights P e, n ∈ DataW.weightsAll P e l := by
  induction l with
  | nil => cases h
  | cons x r ih =>
    intro n hn
    simp only [DataW.weightsAll, List.mem_append]
    cases List.mem_cons.1 h with
    | inl e => subst e; exact .inl hn
    | inr e => exact .inr (ih e n hn)

section
variable {H : Type} {enc : TypeId × Value → H} {P : Program} {W : World} {base : Nat} {sp : Nat → Bool} {held : Bool}

theorem trod_cl {t bt e : TypeId} {fs : Array Field} {fuel : Nat} {cs : List Value} {x : DataW H × List MemPlace}
    (ht : P.underlying t = some (.struct fs)) (hfs : fs.toList.map (fun f => (f.type, f.offset)) = [(bt, 0), (e, 1)]) (hb : P.underlying bt = some .bool) (he : P.underlying e = some (.int .i64)) (hcb : P.cellsOf bt = 1) (hce : P.cellsOf e = 1) (hct : P.cellsOf t = 2)
    (h : DataW.trod enc P W base sp held fuel t cs = some x) : ∃ c : Cl, cs = [.bool c.h, .int .i64 c.v] ∧ (Lit.int .i64 c.v).wf = true := by
  obtain ⟨xs, n, _, _, hl, hlen, hfld⟩ := DataW.trod_struct ht h
  rw [hct] at hl
  obtain ⟨c0, c1, rfl⟩ : ∃ a b, cs = [a, b] := by
    match cs, hl with
    | [a, b], _ => exact ⟨a, b, rfl⟩
  have h3 : fs.size = 2 := by have := congrArg List.length hfs; simpa using this
  have fat : ∀ i (hi : i < 2), ∃ f, fs[i]? = some f ∧ (f.type, f.offset) = [(bt, 0), (e, 1)][i] := fun i hi => by
    refine ⟨fs[i]'(by omega), by simp [show i < fs.size by omega], ?_⟩
    have : (fs.toList.map (fun f => (f.type, f.offset)))[i]? = [(bt, 0), (e, 1)][i]? := by rw [hfs]
    simpa [show i < fs.size by omega, hi] using this
  have ex : ∀ i, i < 2 → ∃ y, xs[i]? = some y := fun i hi => ⟨xs[i]'(by omega), by simp [show i < xs.length by omega]⟩
  obtain ⟨f0, g0, e0⟩ := fat 0 (by omega)
  obtain ⟨f1, g1, e1⟩ := fat 1 (by omega)
  obtain ⟨y0, q0⟩ := ex 0 (by omega)
  obtain ⟨y1, q1⟩ := ex 1 (by omega)
  have k0 := hfld 0 f0 g0
  have k1 := hfld 1 f1 g1
  simp at e0 e1
  rw [q0, e0.1, e0.2, hcb] at k0
  rw [q1, e1.1, e1.2, hce] at k1
  obtain ⟨z0, r0, _⟩ := DataW.trod_bool hb k0
  obtain ⟨z1, r1, _, w1⟩ := DataW.trod_int he k1
  simp at r0 r1
  subst r0 r1
  exact ⟨⟨z0, z1⟩, rfl, w1⟩

theorem open_cells {T t bt e : TypeId} {fs : Array Field} {fuel : Nat} {a : Option Addr} {len cap : Nat} {x : DataW H × List MemPlace}
    (hT : P.underlying T = some (.slice t)) (ht : P.underlying t = some (.struct fs)) (hfs : fs.toList.map (fun f => (f.type, f.offset)) = [(bt, 0), (e, 1)]) (hb : P.underlying bt = some .bool) (he : P.underlying e = some (.int .i64)) (hcb : P.cellsOf bt = 1) (hce : P.cellsOf e = 1) (hct : P.cellsOf t = 2) (hby : P.bytesOf t = 16)
    (h : DataW.trod enc P W base sp held fuel T [.slice a len cap] = some x) (hs : ∀ n ∈ x.1.weights P T, n ≤ reachBytes) :
    ∃ cs, RC W a len cs ∧ (a = none → len = 0 ∧ cap = 0) ∧ len ≤ cap ∧ cap ≤ maxLen := by
  rcases open_slice hT h with ⟨h0, _⟩ | ⟨y, l, c, m, n, D, Pl, h0, hbb, hl, hm, hmm, xe, hx⟩
  · simp at h0
    obtain ⟨rfl, rfl, rfl⟩ := h0
    exact ⟨[], ⟨rfl, by omega, (fun c hc => by cases hc), .inl rfl⟩, fun _ => ⟨rfl, rfl⟩, Nat.le_refl _, by unfold maxLen; omega⟩
  · simp at h0
    obtain ⟨rfl, rfl, rfl⟩ := h0
    have hlm : len ≤ m := by rw [hmm]; split <;> omega
    have hsz := hs ((((List.range len).map D).length + ((List.range (m - len)).map fun j => D (len + j)).length) * P.bytesOf t) (by rw [xe]; simp [DataW.weights, hT])
    simp [hby, reachBytes] at hsz
    obtain ⟨F, hF⟩ := choose_lt (α := Cl) (n := len) (p := fun i f => (Lit.int .i64 f.v).wf = true ∧ W.cell? (y.add (i * 2)) = some (.bool f.h) ∧ W.cell? (y.add (i * 2 + 1)) = some (.int .i64 f.v)) (fun i hi => by
      obtain ⟨cs', h1, h2⟩ := hx i (by omega)
      rw [hct] at h1
      obtain ⟨_, _, h3⟩ := World.cells?_some h1
      obtain ⟨f, rfl, w⟩ := trod_cl ht hfs hb he hcb hce hct h2
      have a0 := h3 0 (by omega)
      have a1 := h3 1 (by omega)
      rw [addT_add] at a0 a1
      exact ⟨f, w, a0, a1⟩)
    have g : ∀ i, i < len → ((List.range len).map F).getD i default = F i := fun i hi => by simp [hi]
    refine ⟨(List.range len).map F, ⟨by simp, by omega, ?_, ?_⟩, (fun e => by cases e), hl, hm⟩
    · intro f hf
      simp at hf
      obtain ⟨i, hi, rfl⟩ := hf
      exact (hF i hi).1
    · by_cases h0 : len = 0
      · exact .inl h0
      · have h00 := (hF 0 (by omega)).2.1
        have e0 : y.add (0 * 2) = y := by simp [Addr.add]
        rw [e0] at h00
        obtain ⟨b, o, rfl, hlt⟩ := addr_of h00
        refine .inr ⟨b, o, rfl, hlt, fun i hi => ?_⟩
        rw [g i hi]
        have := (hF i hi).2
        rw [Go.Addr.add_lit, Go.Addr.add_lit] at this
        exact this

theorem open_rowsT {TT T t bt e : TypeId} {fs : Array Field} {fuel : Nat} {a : Option Addr} {len cap : Nat} {x : DataW H × List MemPlace}
    (hTT : P.underlying TT = some (.slice T)) (hcT : P.cellsOf T = 1) (hbT : P.bytesOf T = 24) (hT : P.underlying T = some (.slice t)) (ht : P.underlying t = some (.struct fs)) (hfs : fs.toList.map (fun f => (f.type, f.offset)) = [(bt, 0), (e, 1)]) (hb : P.underlying bt = some .bool) (he : P.underlying e = some (.int .i64)) (hcb : P.cellsOf bt = 1) (hce : P.cellsOf e = 1) (hct : P.cellsOf t = 2) (hby : P.bytesOf t = 16)
    (h : DataW.trod enc P W base sp held fuel TT [.slice a len cap] = some x) (hs : ∀ n ∈ x.1.weights P TT, n ≤ reachBytes) :
    ∃ rs, RL W a len rs ∧ (a = none → len = 0 ∧ cap = 0) ∧ len ≤ cap ∧ cap ≤ maxLen := by
  rcases open_slice1 hTT hcT h with ⟨h0, _⟩ | ⟨y, l, c, m, n, V, D, Pl, h0, hbb, hl, hm, hmm, xe, hx⟩
  · simp at h0
    obtain ⟨rfl, rfl, rfl⟩ := h0
    exact ⟨[], ⟨rfl, by omega, (fun c hc => by cases hc), .inl rfl⟩, fun _ => ⟨rfl, rfl⟩, Nat.le_refl _, by unfold maxLen; omega⟩
  · simp at h0
    obtain ⟨rfl, rfl, rfl⟩ := h0
    have hlm : len ≤ m := by rw [hmm]; split <;> omega
    have hsz := hs ((((List.range len).map D).length + ((List.range (m - len)).map fun j => D (len + j)).length) * P.bytesOf T) (by rw [xe]; simp [DataW.weights, hTT])
    simp [hbT, reachBytes] at hsz
    obtain ⟨F, hF⟩ := choose_lt (α := Rw) (n := len) (p := fun i r => (RC W r.a r.n r.cs ∧ (r.a = none → r.n = 0 ∧ r.cap = 0) ∧ r.n ≤ r.cap ∧ r.cap ≤ maxLen) ∧ W.cell? (y.add i) = some (.slice r.a r.n r.cap)) (fun i hi => by
      obtain ⟨h1, h2⟩ := hx i (by omega)
      obtain ⟨a', l', c', ev⟩ : ∃ a' l' c', V i = .slice a' l' c' := by
        rcases open_slice hT h2 with ⟨q, _⟩ | ⟨y', l', c', _, _, _, _, q, _⟩
        · simp at q; exact ⟨_, _, _, q⟩
        · simp at q; exact ⟨_, _, _, q⟩
      rw [ev] at h1 h2
      obtain ⟨cs, hc⟩ := open_cells hT ht hfs hb he hcb hce hct hby h2 (fun n hn => hs n (by
        rw [xe]
        simp only [DataW.weights, hTT, List.mem_cons, List.mem_append]
        exact .inr (.inl (weights_all (d := D i) (List.mem_map.2 ⟨i, by simpa using hi, rfl⟩) _ hn))))
      exact ⟨⟨a', l', c', cs⟩, hc, h1⟩)
    have g : ∀ i, i < len → ((List.range len).map F).getD i default = F i := fun i hi => by simp [hi]
    refine ⟨(List.range len).map F, ⟨by simp, by omega, ?_, ?_⟩, (fun e => by cases e), hl, hm⟩
    · intro f hf
      simp at hf
      obtain ⟨i, hi, rfl⟩ := hf
      exact (hF i hi).1
    · by_cases h0 : len = 0
      · exact .inl h0
      · have h00 := (hF 0 (by omega)).2
        have e0 : y.add 0 = y := by simp [Addr.add]
        rw [e0] at h00
        obtain ⟨b, o, rfl, hlt⟩ := addr_of h00
        refine .inr ⟨b, o, rfl, hlt, fun i hi => ?_⟩
        rw [g i hi]
        have := (hF i hi).2
        rw [Go.Addr.add_lit] at this
        exact this

/-- A table as it came in. -/
structure Tb where
  an : Option Addr
  ln : Nat
  cn : Nat
  ss : List ByteArray
  ar : Option Addr
  lr : Nat
  cr : Nat
  rs : List Rw
structure TbOk (w : World) (t : Tb) : Prop where
  nl : NL w t.an t.ln t.ss
  nn : t.an = none → t.ln = 0 ∧ t.cn = 0
  rl : RL w t.ar t.lr t.rs
  rn : t.ar = none → t.lr = 0 ∧ t.cr = 0
  nc : t.ln ≤ t.cn ∧ t.cn ≤ maxLen
  rc : t.lr ≤ t.cr ∧ t.cr ≤ maxLen
theorem TbOk.later {w w' : World} {t : Tb} (h : TbOk w t) (b : Below w.heap.size w w') : TbOk w' t := ⟨h.nl.later b, h.nn, h.rl.later b, h.rn, h.nc, h.rc⟩

end
end Go.Proofs.YtpfjnnkjoabgbaaGreatDoor

namespace Go.Proofs.YtpfjnnkjoabgbaaGreatDoor
open Go.ChangeShapes Go.WideShapes Go.ChangeAt Go.RowKit Go.Deep

structure Fl where
  d : Int
  c : ByteArray
  a : Int
  deriving Inhabited

def Fl.wf (f : Fl) : Prop := (Lit.int .i64 f.d).wf = true ∧ f.c.size ≤ maxLen ∧ (Lit.int .i64 f.a).wf = true
def Fl.cells (f : Fl) : List Value := [.int .i64 f.d, .string f.c, .int .i64 f.a]
theorem add_add (a : Addr) (m n : Nat) : (a.add m).add n = a.add (m + n) := by
  unfold Addr.add
  by_cases h1 : m = 0
  · subst h1; simp
  · by_cases h2 : n = 0
    · subst h2; simp
    · simp [h1, h2, Nat.add_assoc]

end Go.Proofs.YtpfjnnkjoabgbaaGreatDoor
