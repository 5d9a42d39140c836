/-
  OPENING EXPRESSIONS OF LEGS THAT CAME IN (own work).
-/
import Derived.Test.YtjlnbhmiahegmaaOpenTree2
namespace Go.Proofs.Ytjlnbhmiahegmaa
open Go.ChangeShapes Go.WideShapes Go.ChangeAt Go.RowKit Go.Deep
set_option linter.unusedVariables false
set_option linter.unusedSimpArgs false

/-- An expression of a leg, without where it lies. -/
inductive Xt where
  | mk (op num day : Int) (kids : List Xt)
namespace Xt
def op : Xt → Int | mk a _ _ _ => a
def num : Xt → Int | mk _ a _ _ => a
def day : Xt → Int | mk _ _ a _ => a
def kids : Xt → List Xt | mk _ _ _ a => a
instance : Inhabited Xt := ⟨mk 0 0 0 []⟩
theorem ind {p : Xt → Prop} (h : ∀ e : Xt, (∀ k ∈ e.kids, p k) → p e) : ∀ e, p e
  | mk a b c l => h _ (fun k hk => ind h k)
termination_by e => SizeOf.sizeOf e
decreasing_by
  simp only [kids] at hk
  have := List.sizeOf_lt_of_mem hk
  simp
  omega
end Xt
/-- An expression's four cells, and its kids where they lie. -/
inductive XV (w : World) : Xt → List Value → Prop
  | mk {op num day : Int} {kids : List Xt} {ka : Option Addr} {kc : Nat} (V : Nat → List Value)
    (wop : i64 op) (wnum : i64 num) (wday : i64 day) (hk : Hd ka kids.length kc) (hn : kids.length ≤ 8796093021952)
    (hr : Row w ka kids.length 4 V) (hkids : ∀ i, i < kids.length → XV w (kids.getD i default) (V i)) :
    XV w (.mk op num day kids) [.int .i64 op, .int .i64 num, .int .i64 day, .slice ka kids.length kc]
theorem XV.later {w w' : World} {e vs} (h : XV w e vs) (b : Below w.heap.size w w') : XV w' e vs := by
  induction h with
  | mk V wop wnum wday hk hn hr hkids ih => exact .mk V wop wnum wday hk hn (hr.later b) ih
theorem XV.four {w : World} {e : Xt} {vs : List Value} (h : XV w e vs) : ∃ v0 v1 v2 v3, vs = [v0, v1, v2, v3] := by
  cases h; exact ⟨_, _, _, _, rfl⟩
/-- The types of an expression. -/
structure XT (P : Program) where
  I : TypeId
  hI : P.underlying I = some (.int .i64)
  cI : P.cellsOf I = 1
  X : TypeId
  SX : TypeId
  fX : Array Field
  hX : P.underlying X = some (.struct fX)
  lX : fX.toList.map (fun f => (f.type, f.offset)) = [(I, 0), (I, 1), (I, 2), (SX, 3)]
  cX : P.cellsOf X = 4
  bX : P.bytesOf X = 48
  hSX : P.underlying SX = some (.slice X)
  cSX : P.cellsOf SX = 1
section
variable {H : Type} {enc : TypeId × Value → H} {P : Program} {W : World} {base : Nat} {sp : Nat → Bool} {held : Bool}
theorem xgetD_map_range {α : Type} [Inhabited α] {n i : Nat} {f : Nat → α} (h : i < n) : ((List.range n).map f).getD i default = f i := by simp [h]
theorem xrd_fields {t : TypeId} {fs : Array Field} {L : List (TypeId × Nat)} {fuel : Nat} {cs : List Value} (ht : P.underlying t = some (.struct fs)) (hfs : fs.toList.map (fun f => (f.type, f.offset)) = L) (h : Rd enc P W base sp held fuel t cs) :
    ∃ n, fuel = n + 1 ∧ cs.length = P.cellsOf t ∧ ∀ (i : Nat) (p : TypeId × Nat), L[i]? = some p → Rd enc P W base sp held n p.1 ((cs.drop p.2).take (P.cellsOf p.1)) := by
  obtain ⟨n, h1, h2, h3⟩ := rd_struct ht h
  refine ⟨n, h1, h2, fun i p hp => ?_⟩
  rw [← hfs, List.getElem?_map] at hp
  obtain ⟨f, hf, rfl⟩ := Option.map_eq_some_iff.1 hp
  exact h3 i f (by simpa using hf)
theorem rd_xs_of (T : XT P) {fuel : Nat} {cs : List Value} (ih : ∀ n, n < fuel → ∀ cs, Rd enc P W base sp held n T.X cs → ∃ e, XV W e cs) (h : Rd enc P W base sp held fuel T.SX cs) :
    ∃ a cap es, cs = [.slice a (List.length es) cap] ∧ Hd a es.length cap ∧ es.length ≤ 8796093021952 ∧ ∃ V : Nat → List Value, Row W a es.length 4 V ∧ ∀ i, i < es.length → XV W (es.getD i default) (V i) := by
  rcases rd_slice T.hSX h with rfl | ⟨y, len, cap, n, rfl, hn, hl, hm, hz, hx⟩
  · exact ⟨none, 0, [], rfl, ⟨fun _ => ⟨rfl, rfl⟩, Nat.le_refl _, by unfold maxLen; omega⟩, by simp, fun _ => [], .inl rfl, fun i hi => absurd hi (by simp)⟩
  · obtain ⟨V, hr, hv⟩ := rd_row T.cX (by omega) hx
    obtain ⟨F, hF⟩ := choose_lt (α := Xt) (n := len) (p := fun i e => XV W e (V i)) (fun i hi => ih n (by omega) _ (hv i hi).2)
    rw [T.bX] at hz
    unfold reachBytes at hz
    refine ⟨some y, cap, (List.range len).map F, by simp, ⟨(fun e => by cases e), by simpa using hl, hm⟩, by simp; omega, V, by simpa using hr, fun i hi => ?_⟩
    rw [xgetD_map_range (by simpa using hi)]
    exact hF i (by simpa using hi)
theorem rd_x (T : XT P) : ∀ (fuel : Nat) (cs : List Value), Rd enc P W base sp held fuel T.X cs → ∃ e, XV W e cs := by
  intro fuel
  induction fuel using Nat.strongRecOn with
  | ind fuel ih =>
    intro cs h
    obtain ⟨n, hn, hl, hf⟩ := xrd_fields T.hX T.lX h
    rw [T.cX] at hl
    match cs, hl with
    | [c0, c1, c2, c3], _ =>
      have k0 := hf 0 _ rfl
      have k1 := hf 1 _ rfl
      have k2 := hf 2 _ rfl
      have k3 := hf 3 _ rfl
      simp only [T.cI, T.cSX] at k0 k1 k2 k3
      obtain ⟨z0, r0, w0⟩ := rd_int T.hI k0
      obtain ⟨z1, r1, w1⟩ := rd_int T.hI k1
      obtain ⟨z2, r2, w2⟩ := rd_int T.hI k2
      obtain ⟨ka, kc, ks, r3, v1, v3, V, v4, v5⟩ := rd_xs_of T (fun m hm => ih m (by omega)) k3
      simp at r0 r1 r2 r3
      subst r0 r1 r2 r3
      exact ⟨.mk z0 z1 z2 ks, .mk V w0 w1 w2 v1 v3 v4 v5⟩
theorem open_x {r : Reach} {b0 : Nat} (T : XT P) {v : Value} {d : DataW H} {ps : List MemPlace} (hok : Value.okWide P W r b0 T.X v) (h : DataW.Trod enc P W base sp held T.X v d ps) (hz : ∀ n ∈ d.weights P T.X, n ≤ reachBytes) :
    ∃ (e : Xt) (vs : List Value), v = .agg vs.toArray ∧ XV W e vs := by
  obtain ⟨cs, rfl, hsz⟩ := okWide_struct T.hX hok
  obtain ⟨fuel, hf⟩ := h
  obtain ⟨l⟩ := cs
  obtain ⟨e, he⟩ := rd_x (enc := enc) (base := base) (sp := sp) (held := held) T fuel l ⟨_, hf, hz⟩
  exact ⟨e, l, rfl, he⟩
end
end Go.Proofs.Ytjlnbhmiahegmaa
