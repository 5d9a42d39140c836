/-
  WALK: CalWalks: what it holds.
-/
import Derived.Test.YtpeglcnenagkbaaDoorWGone
import Derived.Test.YtpeglcnenagkbaaDoorWRBetw
import Derived.Test.YtpeglcnenagkbaaDoorWBetween2
namespace Go.Proofs.YtpeglcnenagkbaaDoor
open Go.RowKit Go.Shelf
attribute [local go_sem] Oper.semAt_some
set_option linter.unusedVariables false
set_option linter.unusedSimpArgs false

/-- own, with the row that it has made. -/
theorem own_anyW (a : Option Addr) (c cap : Nat) (zs : List Int) (w : World) (h : Hol w a c cap zs) :
    Calls Tryd.prog 8 #[.slice a c cap] w fun e w' => ∃ (A : Option Addr) (C : Nat), e = .returned (.slice A c C) ∧ Below w.heap.size w w' ∧ Ls w' A c zs ∧
      RowKit.Hid (∀ W, Below w'.heap.size w' W → Calls Tryd.prog 12 #[.slice A c C, .slice a c cap] W fun e W' => e = .returned (.bool true) ∧ Below W.heap.size W W') ∧
      RowKit.Hid (c ≤ 20000000000000 ∧ (c = 0 ∨ (A = some ⟨w.heap.size, 0, none⟩ ∧ ∃ xs, Wi w' w.heap.size xs ∧ c ≤ xs.length))) := by
  rcases h with ⟨rfl, rfl, rfl, rfl⟩ | ⟨x, rfl, rfl, rfl⟩ | ⟨b, o, rfl, h1, h2, h3, h4⟩
  · refine (own_nil w).mono ?_
    rintro e w' ⟨rfl, rfl⟩
    exact ⟨none, 0, rfl, Below.refl _ _, ⟨rfl, by omega, .inl rfl⟩, fun W _ => (intact_nil W).mono (by rintro e W' ⟨rfl, rfl⟩; exact ⟨rfl, Below.refl _ _⟩), by omega, .inl rfl⟩
  · refine (own_zero x cap w).mono ?_
    rintro e w' ⟨rfl, hb, xs, hW, hx, e1, e2⟩
    exact ⟨_, _, rfl, hb, ⟨rfl, by omega, .inl rfl⟩, fun W hW' => (intact_zero _ cap x xs W (hW.later hW') hx e1 e2).mono (by rintro e W' ⟨rfl, rfl⟩; exact ⟨rfl, Below.refl _ _⟩), by omega, .inl rfl⟩
  · refine (own_some b o c cap zs w h2 h3 h1 h4).mono ?_
    rintro e w' ⟨rfl, hb, xs, hW, hx, hE, e1, e2⟩
    refine ⟨_, _, rfl, hb, ⟨h2, by omega, .inr ⟨_, 0, rfl, hW.1, fun i hi => ?_⟩⟩, fun W hW' => intact_some _ b o c cap zs xs W h3 (hW.later hW') hx hE e1 e2 (Nat.lt_of_lt_of_le h1 (Nat.le_trans hb.size hW'.size)) (fun i hi => ?_), h3, .inr ⟨rfl, xs, hW, by omega⟩⟩
    · rw [Nat.zero_add, (hW.2 i (by omega)).1, hE i hi]
    · exact ((hb.trans (hW'.mono hb.size)).cell (p := ⟨b, o + i, none⟩) h1).trans (h4 i hi)

theorem ItC.later {W W' : World} {st sb : Nat} {L : List Int} (h : ItC W st sb L) (b : Below W.heap.size W W') : ItC W' st sb L := by
  intro m hm l J Jx X hX hJ hJx hY h0
  refine h m hm l J Jx X (b.trans (hX.mono b.size)) hJ hJx (fun pre x W1 hj hl => (hY pre x W1 hj hl).mono ?_) h0
  rintro e Y (⟨h1, h2, h3⟩ | h1)
  · exact .inl ⟨h1, h2, h3.mono b.size⟩
  · exact .inr h1

/-- The law's boxes and lists. -/
structure CW (w W : World) (stop inner : Int) (bw bs : Nat) (xa : Option Addr) (ca : Nat) (L : List Int) (st sb : Nat) : Prop where
  s : W.cell? ⟨w.heap.size, 0, none⟩ = some (.int .i64 stop)
  i : W.cell? ⟨w.heap.size + 1, 0, none⟩ = some (.int .i64 inner)
  r : W.cell? ⟨w.heap.size + 1 + 1, 0, none⟩ = some (.bool false)
  fr : W.frozen? ⟨w.heap.size + 1 + 1, 0, none⟩ = false
  b : W.cell? ⟨bw, 0, none⟩ = some (.slice xa L.length ca)
  q : W.cell? ⟨bs, 0, none⟩ = some (.func (.func 48) #[] #[.pointer (some ⟨st, 0, none⟩), .pointer (some ⟨sb, 0, none⟩)])
  ls : Ls W xa L.length L
  it : ItC W st sb L
  bel : Below w.heap.size w W
  sz : w.heap.size + 3 ≤ W.heap.size
  bwl : bw < W.heap.size
  bsl : bs < W.heap.size
theorem CW.later {w W W' : World} {stop inner : Int} {bw bs : Nat} {xa : Option Addr} {ca : Nat} {L : List Int} {st sb : Nat} (h : CW w W stop inner bw bs xa ca L st sb) (k : Below W.heap.size W W') : CW w W' stop inner bw bs xa ca L st sb := by
  have z := h.sz
  have q : ∀ k' i v, k' < W.heap.size → W.cell? ⟨k', i, none⟩ = some v → W'.cell? ⟨k', i, none⟩ = some v := fun k' i v hk hv => (k.cell (p := ⟨k', i, none⟩) hk).trans hv
  exact ⟨q _ _ _ (by omega) h.s, q _ _ _ (by omega) h.i, q _ _ _ (by omega) h.r, (k.frozen (p := ⟨w.heap.size + 1 + 1, 0, none⟩) (by show w.heap.size + 1 + 1 < W.heap.size; omega)).trans h.fr, q _ _ _ h.bwl h.b, q _ _ _ h.bsl h.q, h.ls.later k, h.it.later k, h.bel.trans (k.mono (by omega)), by have := k.size; omega, Nat.lt_of_lt_of_le h.bwl k.size, Nat.lt_of_lt_of_le h.bsl k.size⟩

/-- Nothing but blocks from lo up to hi has turned. -/
structure OB (lo hi : Nat) (w W : World) : Prop where
  os : W.os = w.os
  tape : W.tape = w.tape
  output : W.output = w.output
  size : W.heap.size = w.heap.size
  block : ∀ k, k < lo ∨ hi ≤ k → W.heap[k]? = w.heap[k]?
theorem OB.refl (lo hi : Nat) (w : World) : OB lo hi w w := ⟨rfl, rfl, rfl, rfl, fun _ _ => rfl⟩
theorem OB.set {lo hi : Nat} {w W : World} (h : OB lo hi w W) (g i : Nat) (v : Value) (h1 : lo ≤ g) (h2 : g < hi) : OB lo hi w (W.setCell ⟨g, i, none⟩ v) :=
  ⟨h.os, h.tape, h.output, by simp [h.size], fun k hk => (Below.heap_setCell W ⟨g, i, none⟩ v k (by show k ≠ g; omega)).trans (h.block k hk)⟩
theorem OB.below {lo hi B : Nat} {w W : World} (h : OB lo hi w W) (hB : B ≤ lo) : Below B w W := ⟨h.os, h.tape, h.output, by rw [h.size]; exact Nat.le_refl _, fun k hk => h.block k (by omega)⟩
end Go.Proofs.YtpeglcnenagkbaaDoor
