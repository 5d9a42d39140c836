/-
  WALK: the law NumThere.
-/
import Derived.Test.YtaeppjnnddakfaaDoorWNumParse
namespace Go.Proofs.YtaeppjnnddakfaaDoor
open Go.RowKit
set_option linter.unusedVariables false
set_option linter.unusedSimpArgs false

theorem text_dtx (v : Int) (hv : inR v) (p : Nat) (hp : p ≤ 18) (w : World) (ht : Pows w) :
    Calls Tryd.prog 6 #[.int .i64 v, .int .i64 p] w fun e w' => e = .returned (.tuple #[.string ⟨(dtx v p).toArray⟩, .int .i64 0]) ∧ Below w.heap.size w w' :=
  text_in v hv (absI v).toNat (by have := absI_nonneg v; omega) p hp w ht
/-- What Parse reads of any string. -/
def prA (p : Nat) (s : ByteArray) : Option Int := if s.size ≤ 21 then prs p s.data.toList else none
theorem parse_none (s : ByteArray) (hm : s.size ≤ 9223372036854775807) (p : Nat) (hp : p ≤ 18) (h : prA p s = none) (w : World) (ht : Pows w) (hE : Ev w) :
    Calls Tryd.prog 8 #[.string s, .int .i64 p] w fun e w' => e = .returned (.tuple #[.int .i64 0, .int .i64 11]) ∧ Below w.heap.size w w' := by
  by_cases hs : s.size ≤ 21
  · unfold prA at h; rw [if_pos hs] at h
    have := parse_in s.data.toList p hp (by simpa using hs) w ht hE
    rw [show prsV p s.data.toList = 0 by unfold prsV; rw [h]; rfl, show prsE p s.data.toList = 11 by unfold prsE; rw [h]] at this
    simpa using this
  · refine (parse_long s p hp hs hm w).mono ?_
    rintro e w' ⟨rfl, rfl⟩
    exact ⟨rfl, Below.refl _ _⟩
theorem parse_some (s : ByteArray) (p : Nat) (hp : p ≤ 18) (v : Int) (h : prA p s = some v) (w : World) (ht : Pows w) (hE : Ev w) :
    Calls Tryd.prog 8 #[.string s, .int .i64 p] w fun e w' => e = .returned (.tuple #[.int .i64 v, .int .i64 0]) ∧ Below w.heap.size w w' := by
  unfold prA at h
  split at h
  · rename_i hs
    have := parse_in s.data.toList p hp (by simpa using hs) w ht hE
    rw [show prsV p s.data.toList = v by unfold prsV; rw [h]; rfl, show prsE p s.data.toList = 0 by unfold prsE; rw [h]] at this
    simpa using this
  · cases h
theorem prA_some {p : Nat} {s : ByteArray} {v : Int} (h : prA p s = some v) : inR v ∧ (⟨(dtx v p).toArray⟩ : ByteArray) = s := by
  unfold prA at h
  split at h
  · obtain ⟨a, b⟩ := prs_some h
    exact ⟨atoi_inR b, by rw [a]⟩
  · cases h
theorem prA_dtx (v : Int) (hv : inR v) (p q : Nat) (hp : p ≤ 18) : prA q ⟨(dtx v p).toArray⟩ = if q = p then some v else none := by
  have hl := dtx_len v hv p hp
  unfold prA
  rw [if_pos (by simpa [ByteArray.size] using hl)]
  split
  · rename_i e; subst e; exact prs_back v hv q
  · rename_i e; exact prs_other v p q e

abbrev thereCall (v p o : Int) (s : ByteArray) (w : World) : Prop :=
  Calls Tryd.prog 4 #[.int .i64 v, .int .i64 p, .int .i64 o, .string s] w fun e w' => e = .returned (.bool true) ∧ Below w.heap.size w w'

theorem there_out (v p o : Int) (s : ByteArray) (w : World) (h : ¬ (0 ≤ p ∧ p ≤ 18)) : thereCall v p o s w := by
  have T := veil (fun w => text_out v p h w)
  have Q := veil (fun w => parse_places s p h w)
  by_cases g : p < 0
  · clear h
    go_enter Tryd.func4, Tryd.ntmps4
    go_wp2_with (first
      | (go_at_call 6; refine (unveil T _).mono ?_; rintro e w' ⟨rfl, rfl⟩)
      | (go_at_call 8; refine (unveil Q _).mono ?_; rintro e w' ⟨rfl, rfl⟩))
    go_ret
    exact ⟨rfl, Below.refl _ _⟩
  · have g2 : 18 < p := by omega
    clear h
    go_enter Tryd.func4, Tryd.ntmps4
    go_wp2_with (first
      | (go_at_call 6; refine (unveil T _).mono ?_; rintro e w' ⟨rfl, rfl⟩)
      | (go_at_call 8; refine (unveil Q _).mono ?_; rintro e w' ⟨rfl, rfl⟩))
    go_ret
    exact ⟨rfl, Below.refl _ _⟩

set_option maxHeartbeats 1000000 in
theorem there_00 (v : Int) (hv : inR v) (p : Nat) (hp : p ≤ 18) (o : Int) (ho : o = p ∨ o < 0 ∨ 18 < o) (s : ByteArray) (hm : s.size ≤ 9223372036854775807) (w : World) (ht : Pows w) (hE : Ev w) (hx : prA p s = none) : thereCall v p o s w := by
  have T := veil (fun w ht => text_dtx v hv p hp w ht)
  have B := veil (fun w ht hE => parse_some ⟨(dtx v p).toArray⟩ p hp v (by rw [prA_dtx v hv p p hp, if_pos rfl]) w ht hE)
  have S := veil (fun w ht hE => parse_none s hm p hp hx w ht hE)
  generalize (⟨(dtx v p).toArray⟩ : ByteArray) = tt at *
  clear hx
  have P0 : ¬ (p : Int) < 0 := by omega
  have P1 : ¬ (18 : Int) < p := by omega
  have P2 : decide ((p : Int) < 0) = false := decide_eq_false P0
  have P3 : decide ((18 : Int) < p) = false := decide_eq_false P1
  rcases ho with rfl | ho | ho
  · have e0 : (p : Int) = p := rfl
    clear e0
    go_enter Tryd.func4, Tryd.ntmps4
    go_wp2_with (first
      | (go_at_call 6; (first
        | (refine (unveil T _ ht).mono ?_; rintro e w1 ⟨rfl, b1⟩)))
      | (go_at_call 8; (first
        | (have qq := b2; refine (unveil S _ (pows_below ht b2) (ev_below hE b2)).mono ?_; rintro e w3 ⟨rfl, h3⟩; have b3 := b2.trans (h3.mono b2.size))
        | (have qq := b1; refine (unveil B _ (pows_below ht b1) (ev_below hE b1)).mono ?_; rintro e w2 ⟨rfl, h2⟩; have b2 := b1.trans (h2.mono b1.size)))))
    go_ret
    exact ⟨rfl, b3⟩
  · have e1 : ¬ o = p := by omega
    go_enter Tryd.func4, Tryd.ntmps4
    go_wp2_with (first
      | (go_at_call 6; (first
        | (refine (unveil T _ ht).mono ?_; rintro e w1 ⟨rfl, b1⟩)))
      | (go_at_call 8; (first
        | (have qq := b2; refine (unveil S _ (pows_below ht b2) (ev_below hE b2)).mono ?_; rintro e w3 ⟨rfl, h3⟩; have b3 := b2.trans (h3.mono b2.size))
        | (have qq := b1; refine (unveil B _ (pows_below ht b1) (ev_below hE b1)).mono ?_; rintro e w2 ⟨rfl, h2⟩; have b2 := b1.trans (h2.mono b1.size)))))
    go_ret
    exact ⟨rfl, b3⟩
  · have e1 : ¬ o = p := by omega
    have e2 : ¬ o < 0 := by omega
    have e3 : ¬ o ≤ 18 := by omega
    go_enter Tryd.func4, Tryd.ntmps4
    go_wp2_with (first
      | (go_at_call 6; (first
        | (refine (unveil T _ ht).mono ?_; rintro e w1 ⟨rfl, b1⟩)))
      | (go_at_call 8; (first
        | (have qq := b2; refine (unveil S _ (pows_below ht b2) (ev_below hE b2)).mono ?_; rintro e w3 ⟨rfl, h3⟩; have b3 := b2.trans (h3.mono b2.size))
        | (have qq := b1; refine (unveil B _ (pows_below ht b1) (ev_below hE b1)).mono ?_; rintro e w2 ⟨rfl, h2⟩; have b2 := b1.trans (h2.mono b1.size)))))
    go_ret
    exact ⟨rfl, b3⟩

set_option maxHeartbeats 1000000 in
theorem there_01 (v : Int) (hv : inR v) (p : Nat) (hp : p ≤ 18) (o : Int) (ho : o = p ∨ o < 0 ∨ 18 < o) (s : ByteArray) (hm : s.size ≤ 9223372036854775807) (w : World) (ht : Pows w) (hE : Ev w) (x : Int) (hx : prA p s = some x) : thereCall v p o s w := by
  have T := veil (fun w ht => text_dtx v hv p hp w ht)
  have B := veil (fun w ht hE => parse_some ⟨(dtx v p).toArray⟩ p hp v (by rw [prA_dtx v hv p p hp, if_pos rfl]) w ht hE)
  obtain ⟨xr, xe⟩ := prA_some hx
  have S := veil (fun w ht hE => parse_some s p hp x hx w ht hE)
  have T2 := veil (fun w ht => text_dtx x xr p hp w ht)
  rw [xe] at T2
  clear xe
  generalize (⟨(dtx v p).toArray⟩ : ByteArray) = tt at *
  clear hx
  have P0 : ¬ (p : Int) < 0 := by omega
  have P1 : ¬ (18 : Int) < p := by omega
  have P2 : decide ((p : Int) < 0) = false := decide_eq_false P0
  have P3 : decide ((18 : Int) < p) = false := decide_eq_false P1
  rcases ho with rfl | ho | ho
  · have e0 : (p : Int) = p := rfl
    clear e0
    go_enter Tryd.func4, Tryd.ntmps4
    go_wp2_with (first
      | (go_at_call 6; (first
        | (have qq := b3; refine (unveil T2 _ (pows_below ht b3)).mono ?_; rintro e w5 ⟨rfl, h5⟩; have b5 := b3.trans (h5.mono b3.size))
        | (refine (unveil T _ ht).mono ?_; rintro e w1 ⟨rfl, b1⟩)))
      | (go_at_call 8; (first
        | (have qq := b2; refine (unveil S _ (pows_below ht b2) (ev_below hE b2)).mono ?_; rintro e w3 ⟨rfl, h3⟩; have b3 := b2.trans (h3.mono b2.size))
        | (have qq := b1; refine (unveil B _ (pows_below ht b1) (ev_below hE b1)).mono ?_; rintro e w2 ⟨rfl, h2⟩; have b2 := b1.trans (h2.mono b1.size)))))
    go_ret
    exact ⟨rfl, b5⟩
  · have e1 : ¬ o = p := by omega
    go_enter Tryd.func4, Tryd.ntmps4
    go_wp2_with (first
      | (go_at_call 6; (first
        | (have qq := b3; refine (unveil T2 _ (pows_below ht b3)).mono ?_; rintro e w5 ⟨rfl, h5⟩; have b5 := b3.trans (h5.mono b3.size))
        | (refine (unveil T _ ht).mono ?_; rintro e w1 ⟨rfl, b1⟩)))
      | (go_at_call 8; (first
        | (have qq := b2; refine (unveil S _ (pows_below ht b2) (ev_below hE b2)).mono ?_; rintro e w3 ⟨rfl, h3⟩; have b3 := b2.trans (h3.mono b2.size))
        | (have qq := b1; refine (unveil B _ (pows_below ht b1) (ev_below hE b1)).mono ?_; rintro e w2 ⟨rfl, h2⟩; have b2 := b1.trans (h2.mono b1.size)))))
    go_ret
    exact ⟨rfl, b5⟩
  · have e1 : ¬ o = p := by omega
    have e2 : ¬ o < 0 := by omega
    have e3 : ¬ o ≤ 18 := by omega
    go_enter Tryd.func4, Tryd.ntmps4
    go_wp2_with (first
      | (go_at_call 6; (first
        | (have qq := b3; refine (unveil T2 _ (pows_below ht b3)).mono ?_; rintro e w5 ⟨rfl, h5⟩; have b5 := b3.trans (h5.mono b3.size))
        | (refine (unveil T _ ht).mono ?_; rintro e w1 ⟨rfl, b1⟩)))
      | (go_at_call 8; (first
        | (have qq := b2; refine (unveil S _ (pows_below ht b2) (ev_below hE b2)).mono ?_; rintro e w3 ⟨rfl, h3⟩; have b3 := b2.trans (h3.mono b2.size))
        | (have qq := b1; refine (unveil B _ (pows_below ht b1) (ev_below hE b1)).mono ?_; rintro e w2 ⟨rfl, h2⟩; have b2 := b1.trans (h2.mono b1.size)))))
    go_ret
    exact ⟨rfl, b5⟩

set_option maxHeartbeats 1000000 in
theorem there_10 (v : Int) (hv : inR v) (p : Nat) (hp : p ≤ 18) (o : Nat) (ho : o ≤ 18) (hne : ¬ o = p) (s : ByteArray) (hm : s.size ≤ 9223372036854775807) (w : World) (ht : Pows w) (hE : Ev w) (hx : prA p s = none) : thereCall v p o s w := by
  have T := veil (fun w ht => text_dtx v hv p hp w ht)
  have B := veil (fun w ht hE => parse_some ⟨(dtx v p).toArray⟩ p hp v (by rw [prA_dtx v hv p p hp, if_pos rfl]) w ht hE)
  have O := veil (fun w ht hE => parse_none ⟨(dtx v p).toArray⟩ (by have := dtx_len v hv p hp; simp [ByteArray.size]; omega) o ho (by rw [prA_dtx v hv p o hp, if_neg hne]) w ht hE)
  have hne' : ¬ (o : Int) = p := by omega
  have S := veil (fun w ht hE => parse_none s hm p hp hx w ht hE)
  generalize (⟨(dtx v p).toArray⟩ : ByteArray) = tt at *
  clear hx
  have P0 : ¬ (p : Int) < 0 := by omega
  have P1 : ¬ (18 : Int) < p := by omega
  have P2 : decide ((p : Int) < 0) = false := decide_eq_false P0
  have P3 : decide ((18 : Int) < p) = false := decide_eq_false P1
  have O0 : (0 : Int) ≤ o := by omega
  have O1 : (o : Int) ≤ 18 := by omega
  go_enter Tryd.func4, Tryd.ntmps4
  go_wp2_with (first
    | (go_at_call 6; (first
      | (refine (unveil T _ ht).mono ?_; rintro e w1 ⟨rfl, b1⟩)))
    | (go_at_call 8; (first
      | (have qq := b3; refine (unveil S _ (pows_below ht b3) (ev_below hE b3)).mono ?_; rintro e w4 ⟨rfl, h4⟩; have b4 := b3.trans (h4.mono b3.size))
      | (have qq := b2; refine (unveil O _ (pows_below ht b2) (ev_below hE b2)).mono ?_; rintro e w3 ⟨rfl, h3⟩; have b3 := b2.trans (h3.mono b2.size))
      | (have qq := b1; refine (unveil B _ (pows_below ht b1) (ev_below hE b1)).mono ?_; rintro e w2 ⟨rfl, h2⟩; have b2 := b1.trans (h2.mono b1.size)))))
  go_ret
  exact ⟨rfl, b4⟩

set_option maxHeartbeats 1000000 in
theorem there_11 (v : Int) (hv : inR v) (p : Nat) (hp : p ≤ 18) (o : Nat) (ho : o ≤ 18) (hne : ¬ o = p) (s : ByteArray) (hm : s.size ≤ 9223372036854775807) (w : World) (ht : Pows w) (hE : Ev w) (x : Int) (hx : prA p s = some x) : thereCall v p o s w := by
  have T := veil (fun w ht => text_dtx v hv p hp w ht)
  have B := veil (fun w ht hE => parse_some ⟨(dtx v p).toArray⟩ p hp v (by rw [prA_dtx v hv p p hp, if_pos rfl]) w ht hE)
  have O := veil (fun w ht hE => parse_none ⟨(dtx v p).toArray⟩ (by have := dtx_len v hv p hp; simp [ByteArray.size]; omega) o ho (by rw [prA_dtx v hv p o hp, if_neg hne]) w ht hE)
  have hne' : ¬ (o : Int) = p := by omega
  obtain ⟨xr, xe⟩ := prA_some hx
  have S := veil (fun w ht hE => parse_some s p hp x hx w ht hE)
  have T2 := veil (fun w ht => text_dtx x xr p hp w ht)
  rw [xe] at T2
  clear xe
  generalize (⟨(dtx v p).toArray⟩ : ByteArray) = tt at *
  clear hx
  have P0 : ¬ (p : Int) < 0 := by omega
  have P1 : ¬ (18 : Int) < p := by omega
  have P2 : decide ((p : Int) < 0) = false := decide_eq_false P0
  have P3 : decide ((18 : Int) < p) = false := decide_eq_false P1
  have O0 : (0 : Int) ≤ o := by omega
  have O1 : (o : Int) ≤ 18 := by omega
  go_enter Tryd.func4, Tryd.ntmps4
  go_wp2_with (first
    | (go_at_call 6; (first
      | (have qq := b4; refine (unveil T2 _ (pows_below ht b4)).mono ?_; rintro e w5 ⟨rfl, h5⟩; have b5 := b4.trans (h5.mono b4.size))
      | (refine (unveil T _ ht).mono ?_; rintro e w1 ⟨rfl, b1⟩)))
    | (go_at_call 8; (first
      | (have qq := b3; refine (unveil S _ (pows_below ht b3) (ev_below hE b3)).mono ?_; rintro e w4 ⟨rfl, h4⟩; have b4 := b3.trans (h4.mono b3.size))
      | (have qq := b2; refine (unveil O _ (pows_below ht b2) (ev_below hE b2)).mono ?_; rintro e w3 ⟨rfl, h3⟩; have b3 := b2.trans (h3.mono b2.size))
      | (have qq := b1; refine (unveil B _ (pows_below ht b1) (ev_below hE b1)).mono ?_; rintro e w2 ⟨rfl, h2⟩; have b2 := b1.trans (h2.mono b1.size)))))
  go_ret
  exact ⟨rfl, b5⟩

theorem numThere_walk (v p o : Int) (s : ByteArray) (hv : inR v) (hm : s.size ≤ 9223372036854775807) (w : World) (ht : Pows w) (hE : Ev w) : thereCall v p o s w := by
  by_cases h : 0 ≤ p ∧ p ≤ 18
  · obtain ⟨n, rfl⟩ : ∃ n : Nat, p = n := ⟨p.toNat, by omega⟩
    by_cases g : o = n ∨ o < 0 ∨ 18 < o
    · cases hx : prA n s with
      | none => exact there_00 v hv n (by omega) o g s hm w ht hE hx
      | some x => exact there_01 v hv n (by omega) o g s hm w ht hE x hx
    · obtain ⟨k, rfl⟩ : ∃ k : Nat, o = k := ⟨o.toNat, by omega⟩
      cases hx : prA n s with
      | none => exact there_10 v hv n (by omega) k (by omega) (by omega) s hm w ht hE hx
      | some x => exact there_11 v hv n (by omega) k (by omega) (by omega) s hm w ht hE x hx
  · exact there_out v p o s w h
end Go.Proofs.YtaeppjnnddakfaaDoor
