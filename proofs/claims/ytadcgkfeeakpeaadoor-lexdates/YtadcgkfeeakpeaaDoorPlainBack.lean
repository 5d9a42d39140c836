/-
  PLAIN: the texts of numbers, read back.
-/
import Derived.Test.YtadcgkfeeakpeaaDoorWDecimal
import Derived.Lib.AtoiAll
namespace Go.Proofs.YtadcgkfeeakpeaaDoor
open Go.RowKit
set_option linter.unusedVariables false

def isD (c : UInt8) : Prop := 48 ≤ c.toNat ∧ c.toNat ≤ 57
theorem ofNat_d {k : Nat} (h : k ≤ 9) : (UInt8.ofNat (48 + k)).toNat = 48 + k := by rw [UInt8.toNat_ofNat']; omega
theorem dec_d (u : Nat) : ∀ c ∈ Lib.decDigits u, isD c := by
  induction u using Nat.strongRecOn with
  | ind u ih =>
    rw [Lib.decDigits]
    split
    · rename_i h
      intro c hc
      rw [List.mem_singleton.1 hc]; unfold isD; rw [ofNat_d (by omega)]; omega
    · intro c hc
      rw [List.mem_append] at hc
      rcases hc with hc | hc
      · exact ih (u / 10) (by omega) c hc
      · rw [List.mem_singleton.1 hc]; unfold isD; rw [ofNat_d (by omega)]; omega
theorem dec_neB (u : Nat) : Lib.decDigits u ≠ [] := by
  rw [Lib.decDigits]; split <;> simp
theorem dec_len (k : Nat) : ∀ u, u < 10 ^ (k + 1) → (Lib.decDigits u).length ≤ k + 1 := by
  induction k with
  | zero => intro u h; rw [Lib.decDigits, dif_pos (by simpa using h)]; simp
  | succ k ih =>
    intro u h
    rw [Lib.decDigits]
    split
    · simp
    · have := ih (u / 10) (by rw [Nat.pow_succ] at h; omega)
      simp; omega
theorem pu_append (a b : List UInt8) : ∀ acc, Lib.parseUint10 acc (a ++ b) = match Lib.parseUint10 acc a with | .ok m => Lib.parseUint10 m b | .syntax => .syntax | .range => .range := by
  induction a with
  | nil => intro acc; simp [Lib.parseUint10]
  | cons c r ih =>
    intro acc
    simp only [List.cons_append, Lib.parseUint10]
    split
    · split
      · rfl
      · split
        · rfl
        · exact ih _
    · rfl
theorem pu_zero (k : Nat) (r : List UInt8) : Lib.parseUint10 0 (List.replicate k 48 ++ r) = Lib.parseUint10 0 r := by
  induction k with
  | zero => simp
  | succ k ih =>
    rw [List.replicate_succ, List.cons_append, Lib.parseUint10]
    rw [if_pos (by decide), if_neg (by omega), if_neg (by decide)]
    exact ih
theorem pu_dec (u : Nat) (h : u < 18446744073709551616) : Lib.parseUint10 0 (Lib.decDigits u) = .ok u := by
  induction u using Nat.strongRecOn with
  | ind u ih =>
    rw [Lib.decDigits]
    split
    · rename_i g
      rw [Lib.parseUint10, ofNat_d (by omega), if_pos (by omega), if_neg (by omega), if_neg (by omega), Lib.parseUint10]
      congr 1; omega
    · rename_i g
      rw [pu_append, ih (u / 10) (by omega) (by omega)]
      simp only
      rw [Lib.parseUint10, ofNat_d (by omega), if_pos (by omega), if_neg (by omega), if_neg (by omega), Lib.parseUint10]
      congr 1; omega

/-- Without the byte ahead of the decimals. -/
def wst (p : Nat) (l : List UInt8) : List UInt8 := if p = 0 ∨ l.length < p + 1 then l else l.take (l.length - p - 1) ++ l.drop (l.length - p)
/-- A number's text. -/
def dtx (v : Int) (p : Nat) : List UInt8 := decS (decide (v < 0)) p (Lib.decDigits (absI v).toNat)
def sg (v : Int) : List UInt8 := if v < 0 then [45] else []
theorem dtx_eq (v : Int) (p : Nat) : dtx v p = sg v ++ pointed p (padTo p (Lib.decDigits (absI v).toNat)) := by
  unfold dtx decS sg
  by_cases h : v < 0
  · rw [if_pos (decide_eq_true h), if_pos h]; rfl
  · rw [if_neg (by simp [h]), if_neg h]; rfl
theorem pad_len (p : Nat) (ds : List UInt8) : p + 1 ≤ (padTo p ds).length := by unfold padTo; simp; omega
theorem wst_pointed (p : Nat) (s L : List UInt8) (h : p + 1 ≤ L.length) : wst p (s ++ pointed p L) = s ++ L := by
  unfold wst pointed
  by_cases hp : p = 0
  · rw [if_pos hp, if_pos (.inl hp)]
  · rw [if_neg hp]
    have len : (s ++ (L.take (L.length - p) ++ 46 :: L.drop (L.length - p))).length = s.length + L.length + 1 := by simp; omega
    rw [if_neg (by rw [len]; omega), len]
    have n : s.length + L.length + 1 - p - 1 = (s ++ L.take (L.length - p)).length := by simp; omega
    have m : s.length + L.length + 1 - p = ((s ++ L.take (L.length - p)) ++ [46]).length := by simp; omega
    have e1 : s ++ (L.take (L.length - p) ++ 46 :: L.drop (L.length - p)) = (s ++ L.take (L.length - p)) ++ (46 :: L.drop (L.length - p)) := by simp
    have e2 : s ++ (L.take (L.length - p) ++ 46 :: L.drop (L.length - p)) = ((s ++ L.take (L.length - p)) ++ [46]) ++ L.drop (L.length - p) := by simp
    rw [n, m]
    rw [show List.take (s ++ L.take (L.length - p)).length (s ++ (L.take (L.length - p) ++ 46 :: L.drop (L.length - p))) = s ++ L.take (L.length - p) by rw [e1, List.take_left]]
    rw [e2, List.drop_left, List.append_assoc, List.take_append_drop]
theorem pad_d (p : Nat) (u : Nat) : ∀ c ∈ padTo p (Lib.decDigits u), isD c := by
  intro c hc
  unfold padTo at hc
  rw [List.mem_append] at hc
  rcases hc with hc | hc
  · rw [(List.mem_replicate.1 hc).2]; exact ⟨by decide, by decide⟩
  · exact dec_d u c hc
theorem pu_pad (p u : Nat) (h : u < 18446744073709551616) : Lib.parseMag (padTo p (Lib.decDigits u)) = .ok u := by
  unfold Lib.parseMag
  rw [if_neg (by intro e; have := pad_len p (Lib.decDigits u); rw [e] at this; simp at this)]
  unfold padTo
  rw [pu_zero, pu_dec u h]
/-- A text without its stop is read as its number. -/
theorem atoi_back (v : Int) (hv : inR v) (p : Nat) : Lib.atoiAll (wst p (dtx v p)) = .ok v := by
  obtain ⟨b1, b2⟩ := absI_bd v hv
  obtain ⟨u, hu⟩ : ∃ u : Nat, absI v = u := ⟨(absI v).toNat, by omega⟩
  rw [dtx_eq, wst_pointed _ _ _ (pad_len _ _), hu, Int.toNat_natCast]
  have pm := pu_pad p u (by omega)
  by_cases h : v < 0
  · have e : v = -(u : Int) := by rw [absI_neg h] at hu; omega
    unfold sg; rw [if_pos h]
    simp only [List.cons_append, List.nil_append, Lib.atoiAll]
    rw [if_pos (by decide), pm]
    simp only
    rw [if_neg (by simp), if_neg (by omega), if_pos (by decide), e]
  · have e : v = (u : Int) := by rw [absI_pos h] at hu; omega
    unfold sg; rw [if_neg h, List.nil_append]
    obtain ⟨c, r, hL⟩ : ∃ c r, padTo p (Lib.decDigits u) = c :: r := by
      cases hq : padTo p (Lib.decDigits u) with
      | nil => have := pad_len p (Lib.decDigits u); rw [hq] at this; simp at this
      | cons c r => exact ⟨c, r, rfl⟩
    have hc := pad_d p u c (by rw [hL]; simp)
    unfold isD at hc
    rw [hL] at pm ⊢
    simp only [Lib.atoiAll]
    rw [if_neg (by omega), pm]
    simp only
    unfold inR at hv
    rw [if_neg (by omega), if_neg (by omega), if_neg (by omega), e]

/-- Where a text has its stop. -/
theorem dtx_zero (v : Int) : ∀ c ∈ dtx v 0, ¬ c.toNat = 46 := by
  rw [dtx_eq]; unfold pointed sg; rw [if_pos rfl]
  intro c hc
  rw [List.mem_append] at hc
  rcases hc with hc | hc
  · split at hc
    · rw [List.mem_singleton.1 hc]; decide
    · cases hc
  · have := pad_d 0 _ c hc; unfold isD at this; omega
theorem dtx_stop (v : Int) (p : Nat) (hp : 0 < p) : ∃ A B, dtx v p = A ++ 46 :: B ∧ B.length = p ∧ (∀ c ∈ A, ¬ c.toNat = 46) ∧ ∀ c ∈ B, ¬ c.toNat = 46 := by
  rw [dtx_eq]; unfold pointed; rw [if_neg (by omega)]
  have pl := pad_len p (Lib.decDigits (absI v).toNat)
  have pd := pad_d p (absI v).toNat
  generalize padTo p (Lib.decDigits (absI v).toNat) = L at *
  refine ⟨sg v ++ L.take (L.length - p), L.drop (L.length - p), by simp, by simp; omega, fun c hc => ?_, fun c hc => ?_⟩
  · rw [List.mem_append] at hc
    rcases hc with hc | hc
    · unfold sg at hc; split at hc
      · rw [List.mem_singleton.1 hc]; decide
      · cases hc
    · have := pd c (List.mem_of_mem_take hc); unfold isD at this; omega
  · have := pd c (List.mem_of_mem_drop hc); unfold isD at this; omega
theorem stop_inj : ∀ (A A' B B' : List UInt8), (∀ c ∈ A, ¬ c.toNat = 46) → (∀ c ∈ A', ¬ c.toNat = 46) → A ++ 46 :: B = A' ++ 46 :: B' → B = B'
  | [], [], B, B', _, _, h => by simpa using h
  | [], c :: A', B, B', _, h', h => by
    simp at h
    exact absurd (show c.toNat = 46 by rw [← h.1]; rfl) (h' c (by simp))
  | c :: A, [], B, B', h', _, h => by
    simp at h
    exact absurd (show c.toNat = 46 by rw [h.1]; rfl) (h' c (by simp))
  | c :: A, c' :: A', B, B', h1, h2, h => by
    simp at h
    exact stop_inj A A' B B' (fun x hx => h1 x (by simp [hx])) (fun x hx => h2 x (by simp [hx])) h.2
/-- One number of places a text. -/
theorem places_one (v v' : Int) (p q : Nat) (h : dtx v p = dtx v' q) : p = q := by
  rcases Nat.eq_zero_or_pos p with rfl | hp
  · rcases Nat.eq_zero_or_pos q with rfl | hq
    · rfl
    · obtain ⟨A, B, e, _, _, _⟩ := dtx_stop v' q hq
      exact absurd rfl (dtx_zero v 46 (by rw [h, e]; simp))
  · rcases Nat.eq_zero_or_pos q with rfl | hq
    · obtain ⟨A, B, e, _, _, _⟩ := dtx_stop v p hp
      exact absurd rfl (dtx_zero v' 46 (by rw [← h, e]; simp))
    · obtain ⟨A, B, e, l, a, _⟩ := dtx_stop v p hp
      obtain ⟨A', B', e', l', a', _⟩ := dtx_stop v' q hq
      rw [e, e'] at h
      have := stop_inj A A' B B' a a' h
      rw [← l, ← l', this]
theorem dtx_len (v : Int) (hv : inR v) (p : Nat) (hp : p ≤ 18) : (dtx v p).length ≤ 21 := by
  obtain ⟨b1, b2⟩ := absI_bd v hv
  have dl := dec_len 18 (absI v).toNat (by have : (10 : Nat) ^ 19 = 10000000000000000000 := by decide
                                           omega)
  rw [dtx_eq]
  have pl : (padTo p (Lib.decDigits (absI v).toNat)).length ≤ 19 := by unfold padTo; simp; omega
  have ql : (pointed p (padTo p (Lib.decDigits (absI v).toNat))).length ≤ 20 := by
    unfold pointed; split
    · omega
    · simp; omega
  have sl : (sg v).length ≤ 1 := by unfold sg; split <;> simp
  simp; omega
theorem wst_len (p : Nat) (l : List UInt8) : (wst p l).length ≤ l.length := by
  unfold wst; split
  · omega
  · simp; omega
/-- What Parse reads. -/
def prs (p : Nat) (l : List UInt8) : Option Int := match Lib.atoiAll (wst p l) with | .ok v => if dtx v p = l then some v else none | _ => none
theorem prs_back (v : Int) (hv : inR v) (p : Nat) : prs p (dtx v p) = some v := by unfold prs; rw [atoi_back v hv p]; simp
theorem prs_other (v : Int) (p q : Nat) (h : ¬ q = p) : prs q (dtx v p) = none := by
  unfold prs
  split
  · rename_i v' _
    rw [if_neg (fun e => h (places_one v' v q p e))]
  · rfl
theorem prs_some {p : Nat} {l : List UInt8} {v : Int} (h : prs p l = some v) : dtx v p = l ∧ Lib.atoiAll (wst p l) = .ok v := by
  unfold prs at h
  split at h
  · rename_i v' hv'
    split at h
    · rename_i e; cases h; exact ⟨e, hv'⟩
    · cases h
  · cases h
end Go.Proofs.YtadcgkfeeakpeaaDoor
