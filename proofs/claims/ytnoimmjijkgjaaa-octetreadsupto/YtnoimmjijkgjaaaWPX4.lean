/-
  WALKS: step, kind by kind (made by wip/gen/gen_step.py).
-/
import Derived.Test.YtnoimmjijkgjaaaWPX3
namespace Go.Proofs.Ytnoimmjijkgjaaa
open Go.RowKit
set_option linter.unusedVariables false
set_option linter.unusedSimpArgs false

theorem own_gr {w w1 : World} {B p : Nat} {v : Value} {n : Nat} {xs : List Int} (h : Own w B v n xs) (g : Gr p w w1) (hp : p < B) : Own w1 B v n xs := h.kept g (by
  rcases hv : v.ownBlock with _ | x
  · exact .inl rfl
  · right
    intro e
    injection e with e
    have := (h.lt x hv).1
    omega)
theorem part_byte {xs : List Int} (h : ∀ c ∈ xs, 0 ≤ c ∧ c ≤ 255) (k m : Nat) : ∀ c ∈ (xs.drop k).take m, 0 ≤ c ∧ c ≤ 255 := fun c hc => h c (List.mem_of_mem_drop (List.mem_of_mem_take hc))

set_option maxRecDepth 100000 in
set_option maxHeartbeats 1500000 in
theorem step_take_ok (B q p : Nat) (a : Option Addr) (n cap : Nat) (xs : List Int) (k p' : Nat) (a' : Option Addr) (cap' : Nat) (X Y : World → Prop) (lim : Int) (m : Nat) (w : World) (h : PO w B q p a n cap xs k p' a' cap' X) (hm : k + m ≤ n) (hn : n ≤ 140737488354000) (HP : PutC B q p a n cap xs p' a' cap' X Y) (hBw : B ≤ w.heap.size) :
    Calls Try.prog 9 #[.pointer (some ⟨q, 0, none⟩), .agg #[.int .i64 4, .int .u64 lim, .int .i64 (m : Int)]] w fun e w' => e = .returned (.bool true) ∧ StepQ w w' B q p a n cap xs p' a' cap' Y := by
  have HA := Lib.hid (h.alloc (.cells #[.int .i64 4, .int .u64 lim, .int .i64 (m : Int)] 41))
  have HH := Lib.hid h
  have hp := h.rp.lt
  have hp' := h.rr.lt
  have q0 : (w.alloc (.cells #[.int .i64 4, .int .u64 lim, .int .i64 (m : Int)] 41)).cell? ⟨q, 0, none⟩ = some (.pointer (some ⟨p, 0, none⟩)) := HA.out.c0
  have q1 : (w.alloc (.cells #[.int .i64 4, .int .u64 lim, .int .i64 (m : Int)] 41)).cell? ⟨q, 1, none⟩ = some (.pointer (some ⟨p', 0, none⟩)) := HA.out.c1
  have KU := Lib.hid (fun W (g : RB W B p a n cap xs k) => take_ok B p a n cap xs k m W g hm)
  have KR := Lib.hid (fun W (g : RE W B p' a' n cap' xs k) => takeR_ok B p' a' n cap' xs k m W g hm)
  have LB := Lib.hid (part_byte h.rp.byte k m)
  have hq' : p' < (w.alloc (.cells #[.int .i64 4, .int .u64 lim, .int .i64 (m : Int)] 41)).heap.size := by simp; omega
  generalize (xs.drop k).take m = l at *
  have KS := Lib.hid (fun s t c d W (g : BL W s m l) (g' : BL W t m l) => same_any s t m m c d l l W g g')
  rw [decide_eq_true rfl] at KS
  clear h
  go_enter Try.func9, Try.ntmps9
  go_wp2
  go_region_held3 (fun w' => w'.cell? ⟨q, 0, none⟩ = some (.pointer (some ⟨p, 0, none⟩)) ∧ w'.cell? ⟨w.heap.size, 2, none⟩ = some (.int .i64 (m : Int)))
    (refine ⟨?_, ?_⟩ <;> first | assumption | (go_simp; done))
    (first
    | (go_at_call 11; refine (KU.out _ HA.out.rp.drew).mono ?_; rintro e w1 ⟨v1, rfl, o1, h1, h2⟩; have G1 := Lib.hid (gr_drew0 h2); have R1 := Lib.hid h1; have O1 := Lib.hid (own_low o1 (Nat.le_refl _)); obtain ⟨s1, c1, rfl, _⟩ := own_sl o1 LB.out (by omega); obtain ⟨y0, y1, y2, y3⟩ := HA.out.afterP G1.out; have Y3 := Lib.hid y3; have b1 := box_gr G1.out hp 1; have b2 := box_gr G1.out hp 2; simp at b1 b2; clear h1 h2 y2 y3 o1))
  go_wp2
  go_region_held3 (fun w' => w'.cell? ⟨q, 1, none⟩ = some (.pointer (some ⟨p', 0, none⟩)) ∧ w'.cell? ⟨w.heap.size, 2, none⟩ = some (.int .i64 (m : Int)))
    (refine ⟨?_, ?_⟩ <;> first | assumption | (go_simp; done))
    (first
    | (go_at_call 22; refine (KR.out _ Y3.out.drew).mono ?_; rintro e w2 ⟨v2, rfl, o1, h1, h2⟩; have G2 := Lib.hid (gr_drew0 h2); have R2 := Lib.hid h1; have Z2 := Lib.hid (HA.out.afterR G1.out R1.out G2.out R2.out); have z1 := Z2.out.c1; have z2 := (box_two G1.out G2.out hp' 1).trans b1; have z3 := (box_two G1.out G2.out hp' 2).trans b2; obtain ⟨s2, c2, rfl, sl2⟩ := own_sl o1 LB.out (by omega); have SL2 := Lib.hid sl2; have O2 := Lib.hid (own_gr O1.out G2.out hq'); clear h1 h2 o1 sl2))
  go_wp2_with (first
    | (go_at_call 12; refine (KS.out _ _ _ _ _ (own_bl O2.out LB.out (by omega)).1 SL2.out.1).mono ?_; rintro e w3 ⟨rfl, i3, rfl⟩)
    | (go_at_call 23; refine (HP _ _ w _ _ _ _ _ _ HH.out (keep_two G1.out (gr_drewN G2.out i3)) (Z2.out.later (gr_drewN (gr_refl none _) i3)) (own_later O2.out (gr_drewN (gr_refl none _) i3)) (by simp) (Nat.le_trans G1.out.size G2.out.size) (Nat.le_trans (Nat.le_trans (Nat.le_trans hBw (by simp)) G1.out.size) G2.out.size) (by omega) LB.out).mono ?_; rintro e w4 ⟨rfl, p4, b4⟩; have P4 := Lib.hid p4; have B4 := Lib.hid b4; clear p4 b4))
  go_ret
  exact ⟨by first | rfl | simp, stepQ_put (keep_two G1.out (gr_drewN G2.out i3)) (Z2.out.later (gr_drewN (gr_refl none _) i3)) P4.out B4.out hBw⟩

end Go.Proofs.Ytnoimmjijkgjaaa
