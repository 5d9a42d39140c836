/-
  THE ITERATOR OF upFrom AS A CONTRACT.
-/
import Derived.Test.YtpeglcnenagkbaaDoorWUp1
import Derived.Test.YtpeglcnenagkbaaDoorWUpFrom
import Derived.Test.YtpeglcnenagkbaaDoorWOpen
namespace Go.Proofs.YtpeglcnenagkbaaDoor
open Go.RowKit Go.Shelf
set_option linter.unusedVariables false
set_option linter.unusedSimpArgs false

/-- A day of the calendar. -/
abbrev CD := { x : Int // 0 ≤ x ∧ x < 109573 }

theorem wd_below {w w' : World} {B g : Nat} {ws : List Nat} (h : Below B w w') (hg : g < B) (hs : w.heap.size ≤ w'.heap.size) (hw : Wd w g ws) : Wd w' g ws :=
  ⟨by have := hw.1; omega, fun i hi => ⟨(h.cell (p := ⟨g, i, none⟩) hg).trans (hw.2 i hi).1, by rw [h.frozen (p := ⟨g, i, none⟩) hg]; exact (hw.2 i hi).2⟩⟩
theorem up_stops (m : Nat) (hm : 1 ≤ m) (sb st g n₀ n cap s0 : Nat) (A : Int) (ws : List Nat) (a0 : 0 ≤ A) (a1 : A < 1000000) (hn : n ≤ 100000) (hs0 : s0 < 64 * n) (hl : ws.length = n) (h64 : ∀ i, ws.getD i 0 < 18446744073709551616)
    (hP : ∀ x ∈ ups ws A s0 (64 * n), 0 ≤ x ∧ x < 109573)
    (w : World) (hst : st < w.heap.size) (hsb : sb < n₀) (hg : g < n₀) (ht : 0 < n₀) (hn₀ : n₀ ≤ w.heap.size)
    (c0 : w.cell? ⟨st, 0, none⟩ = some (.int .i64 (s0 : Int))) (c1 : w.cell? ⟨sb, 0, none⟩ = some (.int .i64 A)) (c2 : w.cell? ⟨sb, 1, none⟩ = some (.slice (some ⟨g, 0, none⟩) n cap)) (hw : Wd w g ws) (hT : Tz w) :
    SeqStopsK Fence.wide m Tryd.prog 48 #[.pointer (some ⟨st, 0, none⟩), .pointer (some ⟨sb, 0, none⟩)] (fun x : CD => #[Value.int .i64 x.1]) (Below n₀)
      (fun ys => ys.map (·.1) = ups ws A s0 (64 * n)) (fun pre => pre.map (·.1) <+: ups ws A s0 (64 * n)) (ups ws A s0 (64 * n)).length w := by
  intro l J Jx W hW hJ hJx hY h0
  have b := hW.size
  have hsbw : sb < w.heap.size := by omega
  refine (up1_in m hm l sb st g n₀ n cap s0 A ws a0 a1 hn hs0 hl h64 (fun pre W => ∃ q : List CD, q.map (·.1) = pre ∧ J q W) (fun pre W => ∃ q : List CD, q.map (·.1) = pre ∧ Jx q W) hsb hg ht ?_ W ?_
    ((hW.cell (p := ⟨st, 0, none⟩) hst).trans c0) ((hW.cell (p := ⟨sb, 0, none⟩) hsbw).trans c1) ((hW.cell (p := ⟨sb, 1, none⟩) hsbw).trans c2) (wd_below hW (by omega) b hw) (tz_below (Nat.le_refl _) hW hT) ⟨[], rfl, h0⟩).mono ?_
  · rintro pre x W1 ⟨q, rfl, hq⟩ hp
    have hx := hP x (hp.subset (by simp))
    have hlen : q.length < (ups ws A s0 (64 * n)).length := by have := hp.length_le; simp at this; omega
    refine (hY q ⟨x, hx⟩ W1 hq hlen).mono ?_
    rintro e W' (⟨rfl, h1, h2⟩ | ⟨rfl, h1⟩)
    · exact .inl ⟨rfl, ⟨_, by simp, h1⟩, h2⟩
    · exact .inr ⟨rfl, ⟨_, by simp, h1⟩⟩
  · rintro s A B row ⟨q, hq, hj⟩ hg' hr
    exact ⟨q, hq, hJ q A B row hj hg' hr⟩
  · rintro e W' ⟨hv, h⟩
    refine ⟨hv, ?_⟩
    rcases h with ⟨ys, h1, q, h2, h3⟩ | ⟨pre, h1, q, h2, h3⟩
    · exact .inl ⟨q, h2.trans h1, h3⟩
    · subst h2; exact .inr ⟨q, h1, h3⟩

end Go.Proofs.YtpeglcnenagkbaaDoor
