/-
  The document's numbers, whole.
-/
import Derived.Test.YtlihkmhhfnkkoaaDoorWRefLex5c
namespace Go.Proofs.YtlihkmhhfnkkoaaDoor
open Go.RowKit Lx
set_option linter.unusedVariables false
set_option linter.unusedSimpArgs false

theorem atV_err (at_ : Nat) (e : Int) : atV at_ (.err 0 e) = (tokR0, (at_ : Int), e) := by unfold atV; simp
theorem rnumbers_any (s : ByteArray) (at_ : Nat) (w : World) (h1 : 1 ≤ s.size) (hs : s.size ≤ 65536) :
    Calls Tryd.prog 35 #[.string s, .int .i64 (at_ : Int)] w fun e w' => e = trEnd (atV at_ (digR (lst s))) ∧ Below w.heap.size w w' := by
  have zz : 0 < s.size := by omega
  have zl : s.size - 1 < s.size := by omega
  have hne : lst s ≠ [] := by intro e; have := lst_len s; rw [e] at this; simp at this; omega
  have EH : ((lst s).headD 0).toNat = s[0].toNat := by
    rw [← nth_lst zz]
    cases hl : lst s <;> rfl
  have EL : lastN (lst s) = s[s.size - 1].toNat := by
    rw [← nth_lst zl]
    unfold lastN nthN
    rw [List.getLast?_eq_getElem?, List.getD_eq_getElem?_getD, lst_len]
  have dl : (lst s).dropLast.length = s.size - 1 := by rw [List.length_dropLast, lst_len]
  unfold digR
  by_cases ha : allD (lst s) = true
  · rw [if_pos ha]
    by_cases hn : numR (lst s) < 0
    · rw [if_pos (.inl hn), atV_err]
      exact rnumbers_a1 s at_ w h1 hs ha hn
    · by_cases hl : 1 < s.size
      · by_cases h48 : s[0].toNat = 48
        · rw [if_pos (.inr ⟨by rw [lst_len]; exact hl, by rw [EH]; exact h48⟩), atV_err]
          exact rnumbers_a2 s at_ w h1 hs ha zz ⟨hn, hl, h48⟩
        · rw [if_neg (by rintro (q | q); exact hn q; exact h48 (by rw [← EH]; exact q.2))]
          exact rnumbers_a4 s at_ w h1 hs ha zz ⟨hn, h48, hl⟩
      · rw [if_neg (by rintro (q | q); exact hn q; exact hl (by rw [← lst_len]; exact q.1))]
        exact rnumbers_a3 s at_ w h1 hs ha ⟨hn, by omega⟩
  · rw [if_neg ha]
    have ha' : allD (lst s) = false := by simpa using ha
    cases hb : (allD (lst s).dropLast && decide (0 < s.size - 1)) with
    | false =>
      have q : allD (lst s).dropLast = false ∨ (lst s).dropLast = [] := by
        cases hx : allD (lst s).dropLast with
        | false => exact .inl rfl
        | true =>
          rw [hx, Bool.true_and] at hb
          right
          exact List.eq_nil_of_length_eq_zero (by rw [dl]; have := of_decide_eq_false hb; omega)
      rw [if_pos (by rcases q with q | q; exact .inl q; exact .inr (.inl q)), atV_err]
      exact rnumbers_b1 s at_ w h1 hs ha' hb
    | true =>
      have hb' := hb
      rw [Bool.and_eq_true] at hb'
      have n1 : ¬ (lst s).dropLast = [] := by intro e; rw [e] at dl; have := of_decide_eq_true hb'.2; simp at dl; omega
      by_cases h3 : 3 < s.size - 1
      · rw [if_pos (.inr (.inr (.inl (by rw [dl]; exact h3)))), atV_err]
        exact rnumbers_b2 s at_ w h1 hs ha' ⟨hb, h3⟩
      · by_cases h48 : s[0].toNat = 48
        · rw [if_pos (.inr (.inr (.inr (.inl (by rw [EH]; exact h48))))), atV_err]
          exact rnumbers_b3 s at_ w h1 hs ha' zz ⟨hb, h3, h48⟩
        · have ok : unN (lastN (lst s)) ≠ 0 → ¬ (allD (lst s).dropLast = false ∨ (lst s).dropLast = [] ∨ 3 < (lst s).dropLast.length ∨ ((lst s).headD 0).toNat = 48 ∨ unN (lastN (lst s)) = 0) := fun hu => by
            rintro (q | q | q | q | q)
            · rw [hb'.1] at q; cases q
            · exact n1 q
            · rw [dl] at q; exact h3 q
            · rw [EH] at q; exact h48 q
            · exact hu q
          by_cases x0 : s[s.size - 1].toNat = 100
          · have u : unN (lastN (lst s)) = 1 := by rw [EL, x0]; rfl
            rw [if_neg (ok (by rw [u]; decide)), u]
            exact rnumbers_c0 s at_ w h1 hs ha' zz zl ⟨hb, h3, h48⟩ x0
          · by_cases x1 : s[s.size - 1].toNat = 119
            · have u : unN (lastN (lst s)) = 2 := by rw [EL, x1]; rfl
              rw [if_neg (ok (by rw [u]; decide)), u]
              exact rnumbers_c1 s at_ w h1 hs ha' zz zl ⟨hb, h3, h48⟩ x1
            · by_cases x2 : s[s.size - 1].toNat = 109
              · have u : unN (lastN (lst s)) = 3 := by rw [EL, x2]; rfl
                rw [if_neg (ok (by rw [u]; decide)), u]
                exact rnumbers_c2 s at_ w h1 hs ha' zz zl ⟨hb, h3, h48⟩ x2
              · by_cases x3 : s[s.size - 1].toNat = 121
                · have u : unN (lastN (lst s)) = 4 := by rw [EL, x3]; rfl
                  rw [if_neg (ok (by rw [u]; decide)), u]
                  exact rnumbers_c3 s at_ w h1 hs ha' zz zl ⟨hb, h3, h48⟩ x3
                · have u : unN (lastN (lst s)) = 0 := by rw [EL]; unfold unN; rw [if_neg x0, if_neg x1, if_neg x2, if_neg x3]
                  rw [if_pos (.inr (.inr (.inr (.inr u)))), atV_err]
                  exact rnumbers_c9 s at_ w h1 hs ha' zz zl ⟨hb, h3, h48⟩ ⟨x0, x1, x2, x3⟩
end Go.Proofs.YtlihkmhhfnkkoaaDoor
