/-
  OPENING ACTIONS THAT CAME IN (own work).
-/
import Derived.Test.YtjlnbhmiahegmaaOpenX
namespace Go.Proofs.Ytjlnbhmiahegmaa
open Go.ChangeShapes Go.WideShapes Go.ChangeAt Go.RowKit Go.Deep
set_option linter.unusedVariables false
set_option linter.unusedSimpArgs false

/-- A step: its kind, what it wants, its expression and the four cells of that. -/
structure St where
  kind : Int
  want : Bool
  e : Xt
  x : List Value
  deriving Inhabited
def St.cs (s : St) : List Value := .int .i64 s.kind :: .bool s.want :: s.x
/-- An action: likewise; where its steps lie. -/
structure At where
  day : Int
  kind : Int
  sa : Option Addr
  sc : Nat
  ss : List St
  e : Xt
  x : List Value
  cur : ByteArray
  cell : Int
  deriving Inhabited
def At.cs (a : At) : List Value := .int .i64 a.day :: .int .i64 a.kind :: .slice a.sa a.ss.length a.sc :: (a.x ++ [.string a.cur, .int .i64 a.cell])
def SV (w : World) (s : St) : Prop := i64 s.kind ∧ XV w s.e s.x
def SL (w : World) (a : Option Addr) (ss : List St) : Prop := ss.length ≤ 2199023255488 ∧ (∀ s ∈ ss, SV w s) ∧ Row w a ss.length 6 (fun i => (ss.getD i default).cs)
def AV (w : World) (a : At) : Prop := i64 a.day ∧ i64 a.kind ∧ i64 a.cell ∧ XV w a.e a.x ∧ Hd a.sa a.ss.length a.sc ∧ SL w a.sa a.ss ∧ a.cur.size ≤ 140737488351232
def AL (w : World) (p : Option Addr) (al : List At) : Prop := al.length ≤ 1256584717422 ∧ (∀ a ∈ al, AV w a) ∧ Row w p al.length 9 (fun i => (al.getD i default).cs)
theorem SV.later {w w' : World} {s : St} (h : SV w s) (b : Below w.heap.size w w') : SV w' s := ⟨h.1, h.2.later b⟩
theorem SL.later {w w' : World} {a : Option Addr} {ss : List St} (h : SL w a ss) (b : Below w.heap.size w w') : SL w' a ss := ⟨h.1, fun s hs => (h.2.1 s hs).later b, h.2.2.later b⟩
theorem AV.later {w w' : World} {a : At} (h : AV w a) (b : Below w.heap.size w w') : AV w' a := ⟨h.1, h.2.1, h.2.2.1, h.2.2.2.1.later b, h.2.2.2.2.1, h.2.2.2.2.2.1.later b, h.2.2.2.2.2.2⟩
theorem AL.later {w w' : World} {p : Option Addr} {al : List At} (h : AL w p al) (b : Below w.heap.size w w') : AL w' p al := ⟨h.1, fun a ha => (h.2.1 a ha).later b, h.2.2.later b⟩
theorem Row.congr {w : World} {a : Option Addr} {n k : Nat} {V V' : Nat → List Value} (h : Row w a n k V) (e : ∀ i, i < n → V i = V' i) : Row w a n k V' := by
  rcases h with h | ⟨b, o, h1, h2, h3⟩
  · exact .inl h
  · exact .inr ⟨b, o, h1, h2, fun i hi j hj => by rw [← e i hi]; exact h3 i hi j hj⟩
/-- The types of actions. -/
structure AT (P : Program) where
  T : XT P
  B : TypeId
  hB : P.underlying B = some .bool
  cB : P.cellsOf B = 1
  S : TypeId
  hS : P.underlying S = some .string
  cS : P.cellsOf S = 1
  St : TypeId
  fSt : Array Field
  hSt : P.underlying St = some (.struct fSt)
  lSt : fSt.toList.map (fun f => (f.type, f.offset)) = [(T.I, 0), (B, 1), (T.X, 2)]
  cSt : P.cellsOf St = 6
  bSt : P.bytesOf St = 64
  SS : TypeId
  hSS : P.underlying SS = some (.slice St)
  cSS : P.cellsOf SS = 1
  Ac : TypeId
  fAc : Array Field
  hAc : P.underlying Ac = some (.struct fAc)
  lAc : fAc.toList.map (fun f => (f.type, f.offset)) = [(T.I, 0), (T.I, 1), (SS, 2), (T.X, 3), (S, 7), (T.I, 8)]
  cAc : P.cellsOf Ac = 9
  bAc : P.bytesOf Ac = 112
  SA : TypeId
  hSA : P.underlying SA = some (.slice Ac)
section
variable {H : Type} {enc : TypeId × Value → H} {P : Program} {W : World} {base : Nat} {sp : Nat → Bool} {held : Bool}
theorem rd_bool {t : TypeId} {fuel : Nat} {cs : List Value} (ht : P.underlying t = some .bool) (h : Rd enc P W base sp held fuel t cs) : ∃ b, cs = [.bool b] := by
  obtain ⟨x, hx, hz⟩ := h
  obtain ⟨b, r, _⟩ := DataW.trod_bool ht hx
  exact ⟨b, r⟩
theorem rd_step (A : AT P) {fuel : Nat} {cs : List Value} (h : Rd enc P W base sp held fuel A.St cs) : ∃ s : St, cs = s.cs ∧ SV W s := by
  obtain ⟨n, hn, hl, hf⟩ := xrd_fields A.hSt A.lSt h
  rw [A.cSt] at hl
  match cs, hl with
  | [c0, c1, c2, c3, c4, c5], _ =>
    have k0 := hf 0 _ rfl
    have k1 := hf 1 _ rfl
    have k2 := hf 2 _ rfl
    simp only [A.T.cI, A.cB, A.T.cX] at k0 k1 k2
    obtain ⟨z0, r0, w0⟩ := rd_int A.T.hI k0
    obtain ⟨z1, r1⟩ := rd_bool A.hB k1
    obtain ⟨e, he⟩ := rd_x A.T _ _ k2
    simp at r0 r1 he
    subst r0 r1
    exact ⟨⟨z0, z1, e, [c2, c3, c4, c5]⟩, rfl, w0, he⟩
theorem rd_steps (A : AT P) {fuel : Nat} {cs : List Value} (h : Rd enc P W base sp held fuel A.SS cs) : ∃ a c ss, cs = [.slice a (List.length ss) c] ∧ Hd a ss.length c ∧ SL W a ss := by
  rcases rd_slice A.hSS h with rfl | ⟨y, len, cap, n, rfl, hn, hl, hm, hz, hx⟩
  · exact ⟨none, 0, [], rfl, ⟨fun _ => ⟨rfl, rfl⟩, Nat.le_refl _, by unfold maxLen; omega⟩, by simp, (fun s hs => by cases hs), .inl rfl⟩
  · obtain ⟨V, hr, hv⟩ := rd_row A.cSt (by omega) hx
    obtain ⟨F, hF⟩ := choose_lt (α := St) (n := len) (p := fun i s => V i = s.cs ∧ SV W s) (fun i hi => rd_step A (hv i hi).2)
    rw [A.bSt] at hz
    unfold reachBytes at hz
    refine ⟨some y, cap, (List.range len).map F, by simp, ⟨(fun e => by cases e), by simpa using hl, hm⟩, by simp; omega, fun s hs => ?_, ?_⟩
    · obtain ⟨i, hi, rfl⟩ := List.mem_map.1 hs
      exact (hF i (List.mem_range.1 hi)).2
    · have : ((List.range len).map F).length = len := by simp
      rw [this]
      exact hr.congr (fun i hi => by rw [xgetD_map_range hi]; exact (hF i hi).1)
theorem rd_action (A : AT P) {fuel : Nat} {cs : List Value} (h : Rd enc P W base sp held fuel A.Ac cs) : ∃ a : At, cs = a.cs ∧ AV W a := by
  obtain ⟨n, hn, hl, hf⟩ := xrd_fields A.hAc A.lAc h
  rw [A.cAc] at hl
  match cs, hl with
  | [c0, c1, c2, c3, c4, c5, c6, c7, c8], _ =>
    have k0 := hf 0 _ rfl
    have k1 := hf 1 _ rfl
    have k2 := hf 2 _ rfl
    have k3 := hf 3 _ rfl
    have k4 := hf 4 _ rfl
    have k5 := hf 5 _ rfl
    simp only [A.T.cI, A.cSS, A.T.cX, A.cS] at k0 k1 k2 k3 k4 k5
    obtain ⟨z0, r0, w0⟩ := rd_int A.T.hI k0
    obtain ⟨z1, r1, w1⟩ := rd_int A.T.hI k1
    obtain ⟨sa, sc, ss, r2, hd, hs⟩ := rd_steps A k2
    obtain ⟨e, he⟩ := rd_x A.T _ _ k3
    obtain ⟨cu, r4, w4⟩ := rd_string A.hS k4
    obtain ⟨z5, r5, w5⟩ := rd_int A.T.hI k5
    simp at r0 r1 r2 he r4 r5
    subst r0 r1 r2 r4 r5
    exact ⟨⟨z0, z1, sa, sc, ss, e, [c3, c4, c5, c6], cu, z5⟩, rfl, w0, w1, w5, he, hd, hs, w4⟩
theorem open_actions (A : AT P) {a : Option Addr} {len cap : Nat} {d : DataW H} {ps : List MemPlace} (h : DataW.Trod enc P W base sp held A.SA (.slice a len cap) d ps) (hz : ∀ n ∈ d.weights P A.SA, n ≤ reachBytes) :
    ∃ al : List At, al.length = len ∧ AL W a al ∧ Hd a len cap := by
  obtain ⟨fuel, hf⟩ := h
  rcases rd_slice (enc := enc) (W := W) (base := base) (sp := sp) (held := held) (fuel := fuel) (cs := [.slice a len cap]) A.hSA ⟨_, hf, hz⟩ with h0 | ⟨y, l, c, n, h0, hn, hl, hm, hz', hx⟩
  · simp at h0
    obtain ⟨rfl, rfl, rfl⟩ := h0
    exact ⟨[], rfl, ⟨by simp, (fun s hs => by cases hs), .inl rfl⟩, fun _ => ⟨rfl, rfl⟩, Nat.le_refl _, by unfold maxLen; omega⟩
  · simp at h0
    obtain ⟨rfl, rfl, rfl⟩ := h0
    obtain ⟨V, hr, hv⟩ := rd_row A.cAc (by omega) hx
    obtain ⟨F, hF⟩ := choose_lt (α := At) (n := len) (p := fun i s => V i = s.cs ∧ AV W s) (fun i hi => rd_action A (hv i hi).2)
    rw [A.bAc] at hz'
    unfold reachBytes at hz'
    refine ⟨(List.range len).map F, by simp, ⟨by simp; omega, fun s hs => ?_, ?_⟩, (fun e => by cases e), hl, hm⟩
    · obtain ⟨i, hi, rfl⟩ := List.mem_map.1 hs
      exact (hF i (List.mem_range.1 hi)).2
    · have : ((List.range len).map F).length = len := by simp
      rw [this]
      exact hr.congr (fun i hi => by rw [xgetD_map_range hi]; exact (hF i hi).1)
end
end Go.Proofs.Ytjlnbhmiahegmaa
