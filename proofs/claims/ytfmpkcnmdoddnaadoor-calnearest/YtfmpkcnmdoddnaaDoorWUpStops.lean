/-
  THE ITERATOR OF upFrom AS A CONTRACT; what its list says of business days.
-/
import Derived.Test.YtfmpkcnmdoddnaaDoorWUp1
import Derived.Test.YtfmpkcnmdoddnaaDoorWUpFrom
import Derived.Test.YtfmpkcnmdoddnaaDoorWSame
import Derived.Test.YtfmpkcnmdoddnaaDoorWLast
import Derived.Test.YtfmpkcnmdoddnaaDoorWOpen
namespace Go.Proofs.YtfmpkcnmdoddnaaDoor
open Go.RowKit Go.Shelf
set_option linter.unusedVariables false
set_option linter.unusedSimpArgs false

/-- A day of the calendar. -/
abbrev CD := { x : Int // 0 ≤ x ∧ x < 109573 }

theorem wd_below {w w' : World} {B g : Nat} {ws : List Nat} (h : Below B w w') (hg : g < B) (hs : w.heap.size ≤ w'.heap.size) (hw : Wd w g ws) : Wd w' g ws :=
  ⟨by have := hw.1; omega, fun i hi => ⟨(h.cell (p := ⟨g, i, none⟩) hg).trans (hw.2 i hi).1, by rw [h.frozen (p := ⟨g, i, none⟩) hg]; exact (hw.2 i hi).2⟩⟩
theorem up_stops (m : Nat) (hm : 1 ≤ m) (sb st g n₀ n cap s0 : Nat) (A : Int) (ws : List Nat) (a0 : 0 ≤ A) (a1 : A < 1000000) (hn : n ≤ 100000) (hs0 : s0 < 64 * n) (hl : ws.length = n) (h64 : ∀ i, ws.getD i 0 < 18446744073709551616)
    (hP : ∀ x ∈ ups ws A s0 (64 * n), 0 ≤ x ∧ x < 109573)
    (w : World) (hst : st < w.heap.size) (hsb : sb < n₀) (hg : g < n₀) (ht : 1 < n₀) (hn₀ : n₀ ≤ w.heap.size)
    (c0 : w.cell? ⟨st, 0, none⟩ = some (.int .i64 (s0 : Int))) (c1 : w.cell? ⟨sb, 0, none⟩ = some (.int .i64 A)) (c2 : w.cell? ⟨sb, 1, none⟩ = some (.slice (some ⟨g, 0, none⟩) n cap)) (hw : Wd w g ws) (hT : Tz w) :
    SeqStopsK Fence.wide m Tryd.prog 54 #[.pointer (some ⟨st, 0, none⟩), .pointer (some ⟨sb, 0, none⟩)] (fun x : CD => #[Value.int .i64 x.1]) (Below n₀)
      (fun ys => ys.map (·.1) = ups ws A s0 (64 * n)) (fun pre => pre.map (·.1) <+: ups ws A s0 (64 * n)) (ups ws A s0 (64 * n)).length w := by
  intro l J Jx W hW hJ hJx hY h0
  have b := hW.size
  have hsbw : sb < w.heap.size := by omega
  refine (up1_in m hm l sb st g n₀ n cap s0 A ws a0 a1 hn hs0 hl h64 (fun pre W => ∃ q : List CD, q.map (·.1) = pre ∧ J q W) (fun pre W => ∃ q : List CD, q.map (·.1) = pre ∧ Jx q W) hsb hg ht ?_ W ?_
    ((hW.cell (p := ⟨st, 0, none⟩) hst).trans c0) ((hW.cell (p := ⟨sb, 0, none⟩) hsbw).trans c1) ((hW.cell (p := ⟨sb, 1, none⟩) hsbw).trans c2) (wd_below hW (by omega) b hw) (tz_below (Nat.le_refl _) hW hT) ⟨[], rfl, h0⟩).mono ?_
  · rintro pre x W1 ⟨q, rfl, hq⟩ hp
    have hx := hP x (hp.subset (by simp))
    have hlen : q.length < (ups ws A s0 (64 * n)).length := by have := hp.length_le; simp at this; omega
    refine (hY q ⟨x, hx⟩ W1 hq hlen).mono ?_
    rintro e W' (⟨rfl, h1, h2⟩ | ⟨rfl, h1⟩)
    · exact .inl ⟨rfl, ⟨_, by simp, h1⟩, h2⟩
    · exact .inr ⟨rfl, ⟨_, by simp, h1⟩⟩
  · rintro s A B row ⟨q, hq, hj⟩ hg' hr
    exact ⟨q, hq, hJ q A B row hj hg' hr⟩
  · rintro e W' ⟨hv, h⟩
    refine ⟨hv, ?_⟩
    rcases h with ⟨ys, h1, q, h2, h3⟩ | ⟨pre, h1, q, h2, h3⟩
    · exact .inl ⟨q, h2.trans h1, h3⟩
    · subst h2; exact .inr ⟨q, h1, h3⟩

/-- The words tell the business days of the whole calendar. -/
def Whole (ws : List Nat) (zs : List Int) : Prop := ws.length = 1713 ∧ (∀ i, ws.getD i 0 < 18446744073709551616) ∧ ∀ m : Nat, m < 109632 → Bit ws m = busB m zs
theorem busy_in {x : Int} {zs : List Int} (h : busB x zs = true) : 0 ≤ x ∧ x < 109573 := by
  unfold busB at h; simp at h; omega
theorem ups_in {ws : List Nat} {zs : List Int} {d : Nat} (h : Whole ws zs) : ∀ x ∈ ups ws 0 d (64 * 1713), 0 ≤ x ∧ x < 109573 := by
  intro x hx
  obtain ⟨m, h1, h2, h3, rfl⟩ := ups_mem.1 hx
  rw [h.2.2 m (by omega)] at h3
  have := busy_in h3
  omega
theorem up_none {ws : List Nat} {zs : List Int} {d : Nat} (h : Whole ws zs) (e : ups ws 0 d (64 * 1713) = []) : UpIs d (-1) zs := by
  refine .inl ⟨rfl, fun x hx => ?_⟩
  cases hb : busB x zs with
  | false => rfl
  | true =>
    exfalso
    have ho := busy_in hb
    have : x ∈ ups ws 0 d (64 * 1713) := ups_mem.2 ⟨x.toNat, by omega, by omega, by rw [h.2.2 _ (by omega), show ((x.toNat : Nat) : Int) = x by omega]; exact hb, by omega⟩
    rw [e] at this
    cases this
theorem up_head {ws : List Nat} {zs : List Int} {d : Nat} {x : Int} (h : Whole ws zs) (e : [x] <+: ups ws 0 d (64 * 1713)) : UpIs d x zs := by
  have hx : x ∈ ups ws 0 d (64 * 1713) := e.subset (by simp)
  obtain ⟨m, h1, h2, h3, h4⟩ := ups_mem.1 hx
  rw [h.2.2 m (by omega)] at h3
  have hm : x = m := by omega
  subst hm
  refine .inr ⟨by omega, h3, fun y a b => ?_⟩
  cases hb : busB y zs with
  | false => rfl
  | true =>
    exfalso
    have ho := busy_in hb
    -- the days stand in rising order
    have hs : (ups ws 0 d (64 * 1713)).Pairwise (· < ·) := by
      unfold ups
      rw [List.pairwise_map]
      exact ((List.pairwise_lt_range).filter _).imp (fun q => by omega)
    have hy : y ∈ ups ws 0 d (64 * 1713) := ups_mem.2 ⟨y.toNat, by omega, by omega, by rw [h.2.2 _ (by omega), show ((y.toNat : Nat) : Int) = y by omega]; exact hb, by omega⟩
    obtain ⟨r, hr⟩ := e
    rw [← hr] at hs hy
    simp at hs hy
    rcases hy with rfl | hy
    · omega
    · have := hs.1 y hy; omega
theorem down_last {ws : List Nat} {zs : List Int} {d : Int} {e : Ending} (h : Whole ws zs) (d0 : 0 ≤ d) (d1 : d < 109573) (k : LastE ws 0 d e) : ∃ (r : Int) (b : Bool), e = .returned (.tuple #[.int .i64 r, .bool b]) ∧ ((b = false ∧ DownIs d (-1) zs) ∨ (b = true ∧ 0 ≤ r ∧ DownIs d r zs)) := by
  obtain ⟨r, b, rfl, hk⟩ := k
  refine ⟨r, b, rfl, ?_⟩
  rcases hk with ⟨rfl, rfl, hz⟩ | ⟨rfl, m, rfl, h1, h2, h3⟩
  · refine .inl ⟨rfl, .inl ⟨rfl, fun x hx => ?_⟩⟩
    cases hb : busB x zs with
    | false => rfl
    | true =>
      exfalso
      have ho := busy_in hb
      have := hz x.toNat (by omega)
      rw [h.2.2 _ (by omega), show ((x.toNat : Nat) : Int) = x by omega, hb] at this
      cases this
  · refine .inr ⟨rfl, by omega, .inr ⟨by omega, ?_, fun x a b => ?_⟩⟩
    · rw [h.2.2 m (by omega)] at h2; simpa using h2
    · cases hb : busB x zs with
      | false => rfl
      | true =>
        exfalso
        have ho := busy_in hb
        have := h3 x.toNat (by omega) (by omega)
        rw [h.2.2 _ (by omega), show ((x.toNat : Nat) : Int) = x by omega, hb] at this
        cases this
end Go.Proofs.YtfmpkcnmdoddnaaDoor
