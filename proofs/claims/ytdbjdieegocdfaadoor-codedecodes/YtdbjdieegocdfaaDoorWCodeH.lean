/-
  THE STATEMENT CodeCut.
-/
import Derived.Test.YtdbjdieegocdfaaDoorWCodeG
import Derived.Test.YtdbjdieegocdfaaDoorOpenIn
namespace Go.Proofs.YtdbjdieegocdfaaDoor
open Go.RowKit
set_option linter.unusedVariables false
set_option linter.unusedSimpArgs false

theorem li_of {w : World} {a : Option Addr} {len cap : Nat} {fs : List In} (hb : len * 24 ≤ 140737488351232) (h : IsIns w a len cap fs) : LI w a len fs ∧ (a = none → len = 0 ∧ cap = 0) ∧ len ≤ cap ∧ len ≤ 5864062014634 := by
  rcases h with ⟨rfl, rfl, rfl, rfl⟩ | ⟨x, rfl, h1, h2, h3, h5⟩
  · exact ⟨⟨rfl, by omega, .inl rfl⟩, fun _ => ⟨rfl, rfl⟩, by omega, by omega⟩
  · refine ⟨⟨h3, by omega, ?_⟩, (fun e => by cases e), h1, by omega⟩
    by_cases h0 : len = 0
    · exact .inl h0
    · obtain ⟨b, o, s⟩ := x
      have hc := (h5 0 (by omega)).1
      have hs : s = none := by simpa [Addr.add] using World.cell?_spot hc
      subst hs
      refine .inr ⟨b, o, rfl, ?_, fun i hi => ?_⟩
      · have e : (⟨b, o, none⟩ : Addr).add (0 * 3) = ⟨b, o, none⟩ := by simp [Addr.add]
        rw [e] at hc
        by_cases hlt : b < w.heap.size
        · exact hlt
        · exfalso
          have hn : w.heap[b]? = none := by simp; omega
          simp [World.cell?, hn] at hc
      · obtain ⟨c0, c1, c2⟩ := h5 i hi
        rw [Go.Addr.add_lit] at c0 c1 c2
        exact ⟨c0, c1, c2⟩
theorem all_ok {l m : List In} (h : ∀ i ∈ l, i.okP) (k : ∀ i ∈ m, i.okP) : ∀ i ∈ l ++ m, i.okP := fun i hi => by
  rcases List.mem_append.1 hi with q | q
  · exact h i q
  · exact k i q
theorem pg_ok (l : List In) : ∀ i ∈ plL ++ gdL l, i.okP := all_ok plL_ok (gdL_ok l)
theorem bl_cut {w : World} {a : Option Addr} {n cap : Nat} {xs : List Int} (h : Sl w a n cap xs) (m : Nat) (hm : m ≤ n) : BL w a m (xs.take m) ∧ (a = none → m = 0) := ⟨h.1.upTo m hm, fun e => by have := h.2.1 e; omega⟩
theorem own_liN {w : World} {B N : Nat} {v : Value} {l : List In} (h : OwI w B v l) (hN : l.length = N) (hl : N ≤ 5864062014805) : ∃ a cap, v = .slice a N cap ∧ LI w a N l ∧ (a = none → N = 0 ∧ cap = 0) ∧ N ≤ cap := by
  subst hN; exact own_li h hl
theorem own_slN {w : World} {B N : Nat} {v : Value} {n : Nat} {xs : List Int} (h : Own w B v n xs) (hN : n = N) (hb : ∀ c ∈ xs, 0 ≤ c ∧ c ≤ 255) (hn : N ≤ 140737488355328) : ∃ a cap, v = .slice a N cap ∧ Sl w a N cap xs := by
  subst hN; exact own_sl h hb hn
theorem owi_keep {w w' : World} {B : Nat} {v : Value} {l : List In} (h : OwI w B v l) (g : Below w.heap.size w w') : OwI w' B v l := h.kept (below_gr g none) (by cases v.ownBlock <;> simp)
theorem decA_nat {bs : List Int} {N : Nat} (h : ¬ 262144 < N) : decA bs (N : Int) = decs N bs := by
  unfold decA; rw [if_neg (by omega), if_neg (by omega), Int.toNat_natCast]
theorem plL_len : plL.length = 7 := rfl
end Go.Proofs.YtdbjdieegocdfaaDoor
