/-
  WHAT THE ITERATOR's LIST SAYS OF BUSINESS DAYS.
-/
import Derived.Test.YtpeglcnenagkbaaDoorWUpSt
import Derived.Test.YtpeglcnenagkbaaDoorWSame
import Derived.Test.YtpeglcnenagkbaaDoorWLast
namespace Go.Proofs.YtpeglcnenagkbaaDoor
open Go.RowKit Go.Shelf
set_option linter.unusedVariables false
set_option linter.unusedSimpArgs false

/-- The words tell the business days of the whole calendar. -/
def Whole (ws : List Nat) (zs : List Int) : Prop := ws.length = 1713 ∧ (∀ i, ws.getD i 0 < 18446744073709551616) ∧ ∀ m : Nat, m < 109632 → Bit ws m = busB m zs
theorem busy_in {x : Int} {zs : List Int} (h : busB x zs = true) : 0 ≤ x ∧ x < 109573 := by
  unfold busB at h; simp at h; omega
theorem ups_in {ws : List Nat} {zs : List Int} {d : Nat} (h : Whole ws zs) : ∀ x ∈ ups ws 0 d (64 * 1713), 0 ≤ x ∧ x < 109573 := by
  intro x hx
  obtain ⟨m, h1, h2, h3, rfl⟩ := ups_mem.1 hx
  rw [h.2.2 m (by omega)] at h3
  have := busy_in h3
  omega
theorem up_none {ws : List Nat} {zs : List Int} {d : Nat} (h : Whole ws zs) (e : ups ws 0 d (64 * 1713) = []) : UpIs d (-1) zs := by
  refine .inl ⟨rfl, fun x hx => ?_⟩
  cases hb : busB x zs with
  | false => rfl
  | true =>
    exfalso
    have ho := busy_in hb
    have : x ∈ ups ws 0 d (64 * 1713) := ups_mem.2 ⟨x.toNat, by omega, by omega, by rw [h.2.2 _ (by omega), show ((x.toNat : Nat) : Int) = x by omega]; exact hb, by omega⟩
    rw [e] at this
    cases this
theorem up_head {ws : List Nat} {zs : List Int} {d : Nat} {x : Int} (h : Whole ws zs) (e : [x] <+: ups ws 0 d (64 * 1713)) : UpIs d x zs := by
  have hx : x ∈ ups ws 0 d (64 * 1713) := e.subset (by simp)
  obtain ⟨m, h1, h2, h3, h4⟩ := ups_mem.1 hx
  rw [h.2.2 m (by omega)] at h3
  have hm : x = m := by omega
  subst hm
  refine .inr ⟨by omega, h3, fun y a b => ?_⟩
  cases hb : busB y zs with
  | false => rfl
  | true =>
    exfalso
    have ho := busy_in hb
    -- the days stand in rising order
    have hs : (ups ws 0 d (64 * 1713)).Pairwise (· < ·) := by
      unfold ups
      rw [List.pairwise_map]
      exact ((List.pairwise_lt_range).filter _).imp (fun q => by omega)
    have hy : y ∈ ups ws 0 d (64 * 1713) := ups_mem.2 ⟨y.toNat, by omega, by omega, by rw [h.2.2 _ (by omega), show ((y.toNat : Nat) : Int) = y by omega]; exact hb, by omega⟩
    obtain ⟨r, hr⟩ := e
    rw [← hr] at hs hy
    simp at hs hy
    rcases hy with rfl | hy
    · omega
    · have := hs.1 y hy; omega
theorem down_last {ws : List Nat} {zs : List Int} {d : Int} {e : Ending} (h : Whole ws zs) (d0 : 0 ≤ d) (d1 : d < 109573) (k : LastE ws 0 d e) : ∃ (r : Int) (b : Bool), e = .returned (.tuple #[.int .i64 r, .bool b]) ∧ ((b = false ∧ DownIs d (-1) zs) ∨ (b = true ∧ 0 ≤ r ∧ DownIs d r zs)) := by
  obtain ⟨r, b, rfl, hk⟩ := k
  refine ⟨r, b, rfl, ?_⟩
  rcases hk with ⟨rfl, rfl, hz⟩ | ⟨rfl, m, rfl, h1, h2, h3⟩
  · refine .inl ⟨rfl, .inl ⟨rfl, fun x hx => ?_⟩⟩
    cases hb : busB x zs with
    | false => rfl
    | true =>
      exfalso
      have ho := busy_in hb
      have := hz x.toNat (by omega)
      rw [h.2.2 _ (by omega), show ((x.toNat : Nat) : Int) = x by omega, hb] at this
      cases this
  · refine .inr ⟨rfl, by omega, .inr ⟨by omega, ?_, fun x a b => ?_⟩⟩
    · rw [h.2.2 m (by omega)] at h2; simpa using h2
    · cases hb : busB x zs with
      | false => rfl
      | true =>
        exfalso
        have ho := busy_in hb
        have := h3 x.toNat (by omega) (by omega)
        rw [h.2.2 _ (by omega), show ((x.toNat : Nat) : Int) = x by omega, hb] at this
        cases this
end Go.Proofs.YtpeglcnenagkbaaDoor
