/-
  WALK: CalNearest, out of its cases.
-/
import Derived.Test.YtfmpkcnmdoddnaaDoorWNearA
import Derived.Test.YtfmpkcnmdoddnaaDoorWNearB
import Derived.Test.YtfmpkcnmdoddnaaDoorWNearC
import Derived.Test.YtfmpkcnmdoddnaaDoorWNearD
import Derived.Test.YtfmpkcnmdoddnaaDoorWNearE
import Derived.Test.YtfmpkcnmdoddnaaDoorWNearF
import Derived.Test.YtfmpkcnmdoddnaaDoorWNearG
namespace Go.Proofs.YtfmpkcnmdoddnaaDoor
open Go.RowKit
set_option linter.unusedVariables false

theorem down_ex (zs : List Int) : ∀ (k : Nat) (day : Int), (day + 1).toNat ≤ k → ∃ v, DownIs day v zs
  | 0, day, h => ⟨-1, .inl ⟨rfl, fun x hx => by
      cases hb : busB x zs with
      | false => rfl
      | true => have := busy_in hb; omega⟩⟩
  | k + 1, day, h => by
    cases hb : busB day zs with
    | true => exact ⟨day, .inr ⟨by omega, hb, fun x a b => by omega⟩⟩
    | false =>
      by_cases h0 : day < 0
      · exact ⟨-1, .inl ⟨rfl, fun x hx => by
          cases hb : busB x zs with
          | false => rfl
          | true => have := busy_in hb; omega⟩⟩
      · obtain ⟨v, hv⟩ := down_ex zs k (day - 1) (by omega)
        refine ⟨v, ?_⟩
        rcases hv with ⟨e, hv⟩ | ⟨h1, h2, h3⟩
        · exact .inl ⟨e, fun x hx => by
            by_cases e : x = day
            · subst e; exact hb
            · exact hv x (by omega)⟩
        · exact .inr ⟨by omega, h2, fun x a b => by
            by_cases e : x = day
            · subst e; exact hb
            · exact h3 x (by omega) b⟩
theorem up_self {u : Int} {zs : List Int} (h : busB u zs = true) : UpIs u u zs := .inr ⟨by omega, h, fun x a b => by omega⟩
theorem down_self {u : Int} {zs : List Int} (h : busB u zs = true) : DownIs u u zs := .inr ⟨by omega, h, fun x a b => by omega⟩
theorem same_self {u : Int} (h : 0 ≤ u) : SameMon u u := ⟨h, fun a b h1 h2 => mon_one h1 h2⟩
theorem aa_in {day conv : Int} {zs : List Int} {r x : Int} (c0 : 0 ≤ conv) (c1 : conv ≤ 3) (d0 : 0 ≤ day) (d1 : day < 109573) (h : AdjIs day conv zs r x) : AA day conv zs r x := .inr (.inr ⟨⟨c0, c1⟩, ⟨d0, d1⟩, h⟩)

theorem calNearest_walk (day conv : Int) (a : Option Addr) (c cap : Nat) (zs : List Int) (w : World) (hH : Hol w a c cap zs) (hT : Tz w) (hM : Mon w) :
    Calls Tryd.prog 5 #[.int .i64 day, .int .i64 conv, .slice a c cap] w fun e w' => e = .returned (.bool true) ∧ Below w.heap.size w w' := by
  by_cases ho : day < 0 ∨ 109572 < day ∨ conv < 1 ∨ 3 < conv
  · exact near_out day conv a c cap w ho
  have d0 : 0 ≤ day := by omega
  have d1 : day < 109573 := by omega
  obtain ⟨u, hu⟩ := up_ex zs (109573 - day).toNat day (by omega)
  obtain ⟨v, hv⟩ := down_ex zs (day + 1).toNat day (by omega)
  rcases (show conv = 1 ∨ conv = 2 ∨ conv = 3 by omega) with rfl | rfl | rfl
  · rcases id hu with ⟨rfl, hn⟩ | ⟨h1, h2, h3⟩
    · exact near_err day 1 a c cap zs w hH hT hM (by omega) (by omega) (by omega) (by omega) (aa_in (by omega) (by omega) d0 d1 (.inr (.inl ⟨rfl, -1, hu, .inl ⟨by omega, rfl, rfl⟩⟩))) (hn day (by omega))
    · have ho := busy_in h2
      exact near_1 day u a c cap zs w hH hT hM d0 d1 ho.1 ho.2 h1 (aa_in (by omega) (by omega) d0 d1 (.inr (.inl ⟨rfl, u, hu, .inr ⟨ho.1, rfl, rfl⟩⟩))) (aa_in (by omega) (by omega) ho.1 ho.2 (.inr (.inl ⟨rfl, u, up_self h2, .inr ⟨ho.1, rfl, rfl⟩⟩))) h2 h3
  · by_cases hs : SameMon u day
    · rcases id hu with ⟨rfl, hn⟩ | ⟨h1, h2, h3⟩
      · exact absurd hs.1 (by omega)
      · have ho := busy_in h2
        have hA := aa_in (zs := zs) (conv := 2) (by omega) (by omega) d0 d1 (.inr (.inr (.inr ⟨rfl, u, hu, .inl ⟨hs, rfl, rfl⟩⟩)))
        have hR := aa_in (zs := zs) (conv := 2) (by omega) (by omega) ho.1 ho.2 (.inr (.inr (.inr ⟨rfl, u, up_self h2, .inl ⟨same_self ho.1, rfl, rfl⟩⟩)))
        by_cases e : day < u
        · exact near_2up day u a c cap zs w hH hT hM d0 d1 ho.1 ho.2 e hA hR h2 h3 hs
        · exact near_2eq day u a c cap zs w hH hT hM d0 d1 ho.1 ho.2 (by omega) hA hR h2 h3
    · rcases id hv with ⟨rfl, hn⟩ | ⟨h1, h2, h3⟩
      · exact near_err day 2 a c cap zs w hH hT hM (by omega) (by omega) (by omega) (by omega) (aa_in (by omega) (by omega) d0 d1 (.inr (.inr (.inr ⟨rfl, u, hu, .inr ⟨hs, -1, hv, .inl ⟨by omega, rfl, rfl⟩⟩⟩)))) (hn day (by omega))
      · have ho := busy_in h2
        have hA := aa_in (zs := zs) (conv := 2) (by omega) (by omega) d0 d1 (.inr (.inr (.inr ⟨rfl, u, hu, .inr ⟨hs, v, hv, .inr ⟨ho.1, rfl, rfl⟩⟩⟩)))
        have hR := aa_in (zs := zs) (conv := 2) (by omega) (by omega) ho.1 ho.2 (.inr (.inr (.inr ⟨rfl, v, up_self h2, .inl ⟨same_self ho.1, rfl, rfl⟩⟩)))
        by_cases e : v < day
        · rcases id hu with ⟨rfl, hn⟩ | ⟨g1, g2, g3⟩
          · exact near_2dn2 day v a c cap zs w hH hT hM d0 d1 ho.1 ho.2 e hA hR h2 (fun k p q => h3 k q p) (aa_in (by omega) (by omega) d0 d1 (.inr (.inl ⟨rfl, -1, hu, .inl ⟨by omega, rfl, rfl⟩⟩)))
          · have hp := busy_in g2
            exact near_2dn0 day v a c cap zs w hH hT hM d0 d1 ho.1 ho.2 e hA hR h2 (fun k p q => h3 k q p) u hp.1 hp.2 (aa_in (by omega) (by omega) d0 d1 (.inr (.inl ⟨rfl, u, hu, .inr ⟨hp.1, rfl, rfl⟩⟩))) hs
        · exact near_2eq day v a c cap zs w hH hT hM d0 d1 ho.1 ho.2 (by omega) hA hR h2 (fun k p q => by omega)
  · rcases id hv with ⟨rfl, hn⟩ | ⟨h1, h2, h3⟩
    · exact near_err day 3 a c cap zs w hH hT hM (by omega) (by omega) (by omega) (by omega) (aa_in (by omega) (by omega) d0 d1 (.inr (.inr (.inl ⟨rfl, -1, hv, .inl ⟨by omega, rfl, rfl⟩⟩)))) (hn day (by omega))
    · have ho := busy_in h2
      have hA := aa_in (zs := zs) (conv := 3) (by omega) (by omega) d0 d1 (.inr (.inr (.inl ⟨rfl, v, hv, .inr ⟨ho.1, rfl, rfl⟩⟩)))
      have hR := aa_in (zs := zs) (conv := 3) (by omega) (by omega) ho.1 ho.2 (.inr (.inr (.inl ⟨rfl, v, down_self h2, .inr ⟨ho.1, rfl, rfl⟩⟩)))
      by_cases e : v < day
      · exact near_3dn day v a c cap zs w hH hT hM d0 d1 ho.1 ho.2 e hA hR h2 (fun k p q => h3 k q p)
      · exact near_3eq day v a c cap zs w hH hT hM d0 d1 ho.1 ho.2 (by omega) hA hR h2 (fun k p q => by omega)
end Go.Proofs.YtfmpkcnmdoddnaaDoor
