/-
  WALK: Between, with a contract that asks for its own blocks alone.
-/
import Derived.Test.YtpeglcnenagkbaaDoorWBetween
namespace Go.Proofs.YtpeglcnenagkbaaDoor
open Go.RowKit Go.Shelf
set_option linter.unusedVariables false
set_option linter.unusedSimpArgs false

theorem cell_heap {W W' : World} {b i : Nat} (h : W'.heap[b]? = W.heap[b]?) : W'.cell? ⟨b, i, none⟩ = W.cell? ⟨b, i, none⟩ := by
  simp only [World.cell?, h]
theorem frozen_heap {W W' : World} {b i : Nat} (h : W'.heap[b]? = W.heap[b]?) : W'.frozen? ⟨b, i, none⟩ = W.frozen? ⟨b, i, none⟩ := by
  simp only [World.frozen?, h]
theorem wd_heap {W W' : World} {g : Nat} {ws : List Nat} (hs : W.heap.size ≤ W'.heap.size) (h : W'.heap[g]? = W.heap[g]?) (hw : Wd W g ws) : Wd W' g ws :=
  ⟨Nat.lt_of_lt_of_le hw.1 hs, fun i hi => ⟨(cell_heap h).trans (hw.2 i hi).1, (frozen_heap h).trans (hw.2 i hi).2⟩⟩
/-- The blocks that were made between w and w' lie in W as they lay. -/
def Own2 (w w' W : World) : Prop := w'.heap.size ≤ W.heap.size ∧ ∀ k, w.heap.size ≤ k → k < w'.heap.size → W.heap[k]? = w'.heap[k]?
theorem between_port (from_ to_ : Int) (a : Option Addr) (c cap : Nat) (hs : List Int) (w : World) (f0 : -9223372036854775808 ≤ from_) (f1 : from_ ≤ 9223372036854775807) (hL : Ls w a c hs) (hT : Tz w) :
    Calls Tryd.prog 7 #[.int .i64 from_, .int .i64 to_, .slice a c cap] w fun e w' => ∃ (st sb : Nat) (L : List Int), e = .returned (.func (.func 48) #[] #[.pointer (some ⟨st, 0, none⟩), .pointer (some ⟨sb, 0, none⟩)]) ∧ Below w.heap.size w w' ∧ BL from_ to_ hs L ∧ RowKit.Hid (∀ W, Own2 w w' W → Tz W → ItC W st sb L) := by
  obtain ⟨A, hA⟩ : ∃ A, (if from_ < 0 then (0 : Int) else from_) = A := ⟨_, rfl⟩
  obtain ⟨B, hB⟩ : ∃ B, (if 109573 < to_ then (109573 : Int) else to_) = B := ⟨_, rfl⟩
  have a0 : 0 ≤ A := by split at hA <;> omega
  have b1 : B ≤ 109573 := by split at hB <;> omega
  by_cases h : B ≤ A
  · have HZ := Lib.hid (open_zero from_ to_ A B a c cap w hA hB h)
    obtain ⟨s, hs'⟩ : ∃ s : Nat, (s : Int) = if from_ < 0 then 0 else from_ - 0 := ⟨(if from_ < 0 then 0 else from_ - 0 : Int).toNat, by split <;> omega⟩
    have HU := Lib.hid (fun W => upFrom_start 0 from_ s none 0 0 W (by omega) f1 (by omega) hs')
    have HE := Lib.hid (p := BL from_ to_ hs []) (BL.none (fun x p q r => by
      have : A ≤ x := by split at hA <;> omega
      have : x < B := by split at hB <;> omega
      omega))
    have s1 : s ≤ 9223372036854775807 := by split at hs' <;> omega
    clear hL hA hB h hs'
    go_enter Tryd.func7, Tryd.ntmps7
    go_wp2_with fail
    go_at_call 26
    refine HZ.out.mono ?_
    rintro e w1 ⟨rfl, b1⟩
    have B1 := Lib.hid b1
    clear b1
    go_wp2_with fail
    go_at_call 27
    refine (HU.out w1).mono ?_
    rintro e w2 ⟨rfl, b2, z2, c0, c1, c2⟩
    have K := Lib.hid (p := ∀ W, Own2 w w2 W → Tz W → ItC W (w1.heap.size + 1) w1.heap.size []) (fun W o _ => by
      have q1 := B1.out.size
      have q2 := o.1
      have e1 := o.2 (w1.heap.size + 1) (by omega) (by omega)
      have e2 := o.2 w1.heap.size (by omega) (by omega)
      exact up_none _ _ s 0 s1 W (by omega) (by omega) ((cell_heap e1).trans c0) ((cell_heap e2).trans c1) ((cell_heap e2).trans c2))
    have B2 := Lib.hid (B1.out.trans (b2.mono B1.out.size))
    clear b2 z2 c0 c1 c2
    go_wp2
    go_ret
    exact ⟨_, _, [], rfl, B2.out, HE.out, K.out⟩
  · obtain ⟨n, hn⟩ : ∃ n : Nat, (B - A + 63) / 64 = n := ⟨((B - A + 63) / 64).toNat, by omega⟩
    have HO := Lib.hid (open_yes from_ to_ a c cap w A B hA hB a0 b1 h n hn hs hL)
    have HU := Lib.hid (fun W g => upFrom_start A from_ 0 (some ⟨g, 0, none⟩) n n W a0 f1 (by omega) (by split at hA <;> (split <;> omega)))
    have HB := Lib.hid (fun (ws : List Nat) hb => ups_bl (ws := ws) (n := n) (hs := hs) hA hB h (by omega) hb)
    have n1 : 1 ≤ n := by omega
    have n2 : n ≤ 1713 := by omega
    have a2 : A < 1000000 := by omega
    clear hL hA hB h hn
    go_enter Tryd.func7, Tryd.ntmps7
    go_wp2_with fail
    go_at_call 26
    refine HO.out.mono ?_
    rintro e w1 ⟨ws, rfl, hw, hl, h64, hb, b1⟩
    have HW := Lib.hid hw
    have H6 := Lib.hid (And.intro hl h64)
    have L1 := Lib.hid (HB.out ws hb)
    have B1 := Lib.hid b1
    clear b1 hw hl h64 hb
    go_wp2_with fail
    go_at_call 27
    refine (HU.out w1 _).mono ?_
    rintro e w2 ⟨rfl, b2, z2, c0, c1, c2⟩
    have K := Lib.hid (p := ∀ W, Own2 w w2 W → Tz W → ItC W (w1.heap.size + 1) w1.heap.size (ups ws A 0 (64 * n))) (fun W o t => by
      have q1 := B1.out.size
      have q2 := o.1
      have q3 := HW.out.1
      have e1 := o.2 (w1.heap.size + 1) (by omega) (by omega)
      have e2 := o.2 w1.heap.size (by omega) (by omega)
      have e3 := o.2 (w.heap.size + 1) (by omega) (by omega)
      exact up_it _ _ (w.heap.size + 1) n n 0 A ws a0 a2 (by omega) (by omega) H6.out.1 H6.out.2 W (by omega) (by omega) (by omega) ((cell_heap e1).trans c0) ((cell_heap e2).trans c1) ((cell_heap e2).trans c2) (wd_heap o.1 e3 (wd_below b2 HW.out.1 (by omega) HW.out)) t)
    have B2 := Lib.hid (B1.out.trans (b2.mono B1.out.size))
    clear b2 z2 c0 c1 c2
    go_wp2
    go_ret
    exact ⟨_, _, _, rfl, B2.out, L1.out, K.out⟩
end Go.Proofs.YtpeglcnenagkbaaDoor
