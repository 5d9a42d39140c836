/-
  WALK: sameBytes; what comes in as a row of bytes.
-/
import Derived.Test.YtnoimmjijkgjaaaWOctSigned
namespace Go.Proofs.Ytnoimmjijkgjaaa
open Go.RowKit
set_option linter.unusedVariables false
set_option linter.unusedSimpArgs false

theorem bl_of {w : World} {a : Option Addr} {len cap : Nat} {zs : List Int} (hb : len * 1 ≤ 140737488351232)
    (h : (a = none ∧ len = 0 ∧ cap = 0 ∧ zs = []) ∨ ∃ x, a = some x ∧ len ≤ cap ∧ cap ≤ maxLen ∧ zs.length = cap ∧ (∀ i, i < zs.length → w.cell? (x.add i) = some (.int .u8 (zs.getD i 0))) ∧ ∀ n ∈ zs, (Lit.int .u8 n).wf = true) : BL w a len (zs.take len) ∧ (a = none → len = 0) ∧ len ≤ cap := by
  rcases h with ⟨rfl, rfl, rfl, rfl⟩ | ⟨x, rfl, h1, h2, h3, h4, h5⟩
  · exact ⟨⟨rfl, by omega, by simp, .inl rfl⟩, fun _ => rfl, by omega⟩
  · refine ⟨⟨by simp; omega, by omega, fun c hc => ?_, ?_⟩, (fun e => by cases e), h1⟩
    · have := h5 c (List.mem_of_mem_take hc)
      simpa [Lit.wf, IntKind.min, IntKind.max, IntKind.bits, IntKind.signed] using this
    · by_cases h0 : len = 0
      · exact .inl h0
      · obtain ⟨b, o, s⟩ := x
        have hc := h4 0 (by omega)
        have hs : s = none := by simpa [Addr.add] using World.cell?_spot hc
        subst hs
        refine .inr ⟨b, o, rfl, ?_, fun i hi => ?_⟩
        · have : (w.cell? ⟨b, o, none⟩).isSome = true := by
            have e : (⟨b, o, none⟩ : Addr).add 0 = ⟨b, o, none⟩ := by simp [Addr.add]
            rw [e] at hc; rw [hc]; rfl
          by_cases hlt : b < w.heap.size
          · exact hlt
          · exfalso
            have hn : w.heap[b]? = none := by simp; omega
            simp [World.cell?, hn] at this
        · have := h4 i (by omega)
          rw [Go.Addr.add_lit] at this
          rw [this]
          congr 2
          simp [List.getD, hi]
theorem BL.drewN {w : World} {a : Option Addr} {n : Nat} {xs : List Int} (h : BL w a n xs) (q : Nat) : BL (w.drewN q) a n xs := h
theorem BL.kept {w w' : World} {a : Option Addr} {n : Nat} {xs : List Int} (h : BL w a n xs) {B : Nat} (b : Below B w w') (hB : w.heap.size ≤ B) : BL w' a n xs := h.later (b.mono hB)
/-- The first bytes of a list. -/
theorem BL.upTo {w : World} {a : Option Addr} {n : Nat} {xs : List Int} (h : BL w a n xs) (m : Nat) (hm : m ≤ n) : BL w a m (xs.take m) := by
  obtain ⟨h1, h2, h3, h4⟩ := h
  refine ⟨by simp; omega, by omega, fun c hc => h3 c (List.mem_of_mem_take hc), ?_⟩
  rcases h4 with h4 | ⟨b, o, rfl, hb, hc⟩
  · exact .inl (by omega)
  · refine .inr ⟨b, o, rfl, hb, fun i hi => ?_⟩
    rw [hc i (by omega)]
    congr 2
    simp [List.getD, hi]
theorem list_eq_of {xs ys : List Int} (hl : xs.length = ys.length) (h : ∀ i, i < xs.length → xs.getD i 0 = ys.getD i 0) : xs = ys := by
  apply List.ext_getElem hl
  intro i h1 h2
  have := h i h1
  simpa [List.getD, h1, h2] using this

theorem ret_b {a b : Bool} (h : a = b) : Ending.returned (.bool a) = .returned (.bool b) := by rw [h]
set_option maxRecDepth 100000 in
set_option maxHeartbeats 2000000 in
theorem same_any (a a' : Option Addr) (n n' c c' : Nat) (xs ys : List Int) (w : World) (h : BL w a n xs) (h' : BL w a' n' ys) :
    Calls Try.prog 12 #[.slice a n c, .slice a' n' c'] w fun e w' => e = .returned (.bool (decide (xs = ys))) ∧ ∃ q, w' = w.drewN q := by
  obtain ⟨h1, h2, h3, h4⟩ := h
  obtain ⟨k1, k2, k3, k4⟩ := h'
  by_cases hn : n = n'
  · subst hn
    have HA := Lib.hid (p := 0 < n → ∃ b o, a = some ⟨b, o, none⟩ ∧ ∀ i, i < n → w.cell? ⟨b, o + i, none⟩ = some (.int .u8 (xs.getD i 0))) (fun h0 => by
      rcases h4 with h4 | ⟨b, o, e, _, hc⟩
      · omega
      · exact ⟨b, o, e, hc⟩)
    have KA := Lib.hid (p := 0 < n → ∃ b o, a' = some ⟨b, o, none⟩ ∧ ∀ i, i < n → w.cell? ⟨b, o + i, none⟩ = some (.int .u8 (ys.getD i 0))) (fun h0 => by
      rcases k4 with h4 | ⟨b, o, e, _, hc⟩
      · omega
      · exact ⟨b, o, e, hc⟩)
    have L1 := Lib.hid h1
    have L2 := Lib.hid k1
    clear h1 h3 h4 k1 k3 k4
    go_enter Try.func12, Try.ntmps12
    go_wp2
    go_loopw [5] (fun t wr => ∃ k : Nat, k ≤ n ∧ t = .int .i64 (k : Int) ∧ RowKit.Hid (∀ i, i < k → xs.getD i 0 = ys.getD i 0) ∧ ∃ q, wr = w.drewN q) (fun t _ => n - (intOf t).toNat)
    case atStart => exact ⟨0, by omega, rfl, fun i hi => absurd hi (by omega), 0, rfl⟩
    case round =>
      obtain ⟨k, hk, rfl, hE, q, rfl⟩ := hrel
      by_cases hlt : k < n
      · obtain ⟨b, o, rfl, hc⟩ := HA.out (by omega)
        obtain ⟨b', o', rfl, hc'⟩ := KA.out (by omega)
        have d1 : w.cell? ⟨b, o + k, none⟩ = some (.int .u8 (xs.getD k 0)) := hc k hlt
        have d2 : w.cell? ⟨b', o' + k, none⟩ = some (.int .u8 (ys.getD k 0)) := hc' k hlt
        have kc : (k : Int) < (n : Int) := by omega
        clear hc hc'
        by_cases e : xs.getD k 0 = ys.getD k 0
        · have NX := Lib.hid (p := ∀ i, i < k + 1 → xs.getD i 0 = ys.getD i 0) (fun i hi => by
            rcases (show i < k ∨ i = k by omega) with r | r
            · exact hE.out i r
            · rw [r]; exact e)
          rw [e] at d1
          generalize ys.getD k 0 = z at *
          clear e
          go_wp2
          go_quiet (fail)
          go_wp2
          go_roundw
          case rel => exact ⟨k + 1, by omega, by go_num, NX.out, _, rfl⟩
          case measure => simp [intOf]; omega
        · have R := Lib.hid (p := decide (xs = ys) = false) (decide_eq_false (fun q => e (by rw [q])))
          have e' : (xs.getD k 0 == ys.getD k 0) = false := by simpa using e
          have e'' : (xs.getD k 0 != ys.getD k 0) = true := by simpa using e
          generalize xs.getD k 0 = y at *
          generalize ys.getD k 0 = z at *
          go_wp2
          go_quiet (fail)
          go_wp2
          go_ret
          exact ⟨ret_b R.out.symm, _, by first | rfl | exact World.drewN_drewN _ _ _⟩
      · obtain rfl : k = n := by omega
        have R := Lib.hid (p := decide (xs = ys) = true) (decide_eq_true (list_eq_of (by rw [L1.out, L2.out]) (fun i hi => hE.out i (by rw [L1.out] at hi; exact hi))))
        go_wp2
        go_ret
        exact ⟨ret_b R.out.symm, _, rfl⟩
  · have R := Lib.hid (p := decide (xs = ys) = false) (decide_eq_false (fun q => hn (by rw [← h1, ← k1, q])))
    have hn' : ((n : Int) == (n' : Int)) = false := by simp; omega
    have hn2 : ((n : Int) != (n' : Int)) = true := by simp; omega
    go_enter Try.func12, Try.ntmps12
    go_wp2
    go_ret
    exact ⟨ret_b R.out.symm, 0, rfl⟩
end Go.Proofs.Ytnoimmjijkgjaaa
