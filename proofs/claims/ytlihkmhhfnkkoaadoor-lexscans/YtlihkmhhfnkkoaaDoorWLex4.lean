/-
  WALKS: beginsWithPair, markToken, commentLength.
-/
import Derived.Test.YtlihkmhhfnkkoaaDoorWLex3
import Derived.Test.YtlihkmhhfnkkoaaDoorShelf
import Derived.Lib.Bytealg
namespace Go.Proofs.YtlihkmhhfnkkoaaDoor
open Go.RowKit Lx
set_option linter.unusedVariables false
set_option linter.unusedSimpArgs false

theorem two_of {s : ByteArray} (h : 2 ≤ s.size) : ∃ a b q, lst s = a :: b :: q := by
  have := lst_len s
  match hl : lst s with
  | [] => rw [hl] at this; simp at this; omega
  | [a] => rw [hl] at this; simp at this; omega
  | a :: b :: q => exact ⟨a, b, q, rfl⟩
theorem ne_two {a b : UInt8} {x y : Nat} (u v : UInt8) (hu : u.toNat = x) (hv : v.toNat = y) (h : ¬ (a.toNat = x ∧ b.toNat = y)) : ((bs [a, b]).toList == [u, v]) = false := by
  unfold bs
  rw [ByteArray.toList_mk, beq_eq_false_iff_ne]
  intro e
  simp at e
  exact h ⟨by rw [e.1]; exact hu, by rw [e.2]; exact hv⟩
set_option maxHeartbeats 1000000 in
theorem beginsWithPair_any (s : ByteArray) (w : World) (hs : s.size ≤ 9223372036854775806) :
    Calls Tryd.prog 27 #[.string s] w fun e w' => e = .returned (.bool (isPair (lst s))) ∧ w' = w := by
  by_cases h2 : s.size < 2
  · have h2' : (s.size : Int) < 2 := by omega
    have e : isPair (lst s) = false := by
      have := lst_len s
      match hl : lst s with
      | [] => rfl
      | [a] => rfl
      | a :: b :: q => rw [hl] at this; simp at this; omega
    rw [e]
    clear e
    go_enter Tryd.func27, Tryd.ntmps27
    go_wp2
    go_ret
    exact ⟨rfl, rfl⟩
  · have h2' : ¬ (s.size : Int) < 2 := by omega
    obtain ⟨a, b, q, hl⟩ := two_of (s := s) (by omega)
    have s1 := cutTo s 2 (by omega) (by omega)
    rw [hl] at s1 ⊢
    rw [show (List.take (Int.toNat 2) (a :: b :: q)) = [a, b] from rfl] at s1
    rw [show isPair (a :: b :: q) = pairN a.toNat b.toNat from rfl]
    by_cases hm : (a.toNat, b.toNat) ∈ prL
    · rw [show pairN a.toNat b.toNat = true from decide_eq_true hm]
      have hx : ∀ x : UInt8, ∀ n : UInt8, x.toNat = n.toNat → x = n := fun x n h => UInt8.toNat_inj.1 h
      simp only [prL, List.mem_cons, List.not_mem_nil, or_false, Prod.mk.injEq] at hm
      clear hl
      rcases hm with ⟨h3, h4⟩|⟨h3, h4⟩|⟨h3, h4⟩|⟨h3, h4⟩|⟨h3, h4⟩|⟨h3, h4⟩|⟨h3, h4⟩
      · obtain rfl := hx a 46 h3; obtain rfl := hx b 46 h4
        clear h3 h4 hx
        unfold bs at s1
        go_enter Tryd.func27, Tryd.ntmps27
        go_wp2
        go_ret
        exact ⟨rfl, rfl⟩
      · obtain rfl := hx a 60 h3; obtain rfl := hx b 61 h4
        clear h3 h4 hx
        unfold bs at s1
        go_enter Tryd.func27, Tryd.ntmps27
        go_wp2
        go_ret
        exact ⟨rfl, rfl⟩
      · obtain rfl := hx a 62 h3; obtain rfl := hx b 61 h4
        clear h3 h4 hx
        unfold bs at s1
        go_enter Tryd.func27, Tryd.ntmps27
        go_wp2
        go_ret
        exact ⟨rfl, rfl⟩
      · obtain rfl := hx a 61 h3; obtain rfl := hx b 61 h4
        clear h3 h4 hx
        unfold bs at s1
        go_enter Tryd.func27, Tryd.ntmps27
        go_wp2
        go_ret
        exact ⟨rfl, rfl⟩
      · obtain rfl := hx a 33 h3; obtain rfl := hx b 61 h4
        clear h3 h4 hx
        unfold bs at s1
        go_enter Tryd.func27, Tryd.ntmps27
        go_wp2
        go_ret
        exact ⟨rfl, rfl⟩
      · obtain rfl := hx a 38 h3; obtain rfl := hx b 38 h4
        clear h3 h4 hx
        unfold bs at s1
        go_enter Tryd.func27, Tryd.ntmps27
        go_wp2
        go_ret
        exact ⟨rfl, rfl⟩
      · obtain rfl := hx a 124 h3; obtain rfl := hx b 124 h4
        clear h3 h4 hx
        unfold bs at s1
        go_enter Tryd.func27, Tryd.ntmps27
        go_wp2
        go_ret
        exact ⟨rfl, rfl⟩
    · rw [show pairN a.toNat b.toNat = false from decide_eq_false hm]
      simp only [prL, List.mem_cons, List.not_mem_nil, or_false, Prod.mk.injEq, not_or] at hm
      obtain ⟨h3, h4, h5, h6, h7, h8, h9⟩ := hm
      replace h3 := ne_two 46 46 rfl rfl h3
      replace h4 := ne_two 60 61 rfl rfl h4
      replace h5 := ne_two 62 61 rfl rfl h5
      replace h6 := ne_two 61 61 rfl rfl h6
      replace h7 := ne_two 33 61 rfl rfl h7
      replace h8 := ne_two 38 38 rfl rfl h8
      replace h9 := ne_two 124 124 rfl rfl h9
      generalize bs [a, b] = T at *
      clear hl
      go_enter Tryd.func27, Tryd.ntmps27
      go_wp2
      go_ret
      exact ⟨rfl, rfl⟩
/-- A token as a value. -/
def tokV (t : Tok) : Value := .agg #[.int .i64 t.k, .string (bs t.t), .int .i64 t.a, .int .i64 t.num, .int .i64 t.y, .int .i64 t.m, .int .i64 t.d, .int .i64 t.n, .int .i64 t.u]
def tok0 : Tok := ⟨0, [], 0, 0, 0, 0, 0, 0, 0⟩
/-- What a reader of one token answers. -/
def stV : St → Tok × Nat × Int
  | .skip _ => (tok0, 0, 0)
  | .tok t => (t, 0, 0)
  | .err s e => (tok0, s, e)
abbrev stEnd (r : St) : Ending := .returned (.tuple #[tokV (stV r).1, .int .i64 (stV r).2.2])
set_option maxHeartbeats 1000000 in
theorem markToken_any (s : ByteArray) (w : World) (h1 : 1 ≤ s.size) (hs : s.size ≤ 9223372036854775806) :
    Calls Tryd.prog 17 #[.string s] w fun e w' => e = stEnd (marT (lst s)) ∧ Below w.heap.size w w' := by
  have KP := Lib.hid (fun W => beginsWithPair_any s W hs)
  have h0 : 0 < s.size := by omega
  have KM := Lib.hid (fun W => isMark_any (s[0].toNat) W)
  have EH : (List.headD (lst s) 0).toNat = s[0].toNat := by
    rw [← nth_lst h0]
    cases hl : lst s <;> rfl
  cases hp : isPair (lst s) with
  | true =>
    rw [show marT (lst s) = .tok ⟨6, (lst s).take 2, 0, 0, 0, 0, 0, 0, 0⟩ by unfold marT; rw [if_pos hp]]
    rw [hp] at KP
    have hz : 2 ≤ s.size := by
      have := lst_len s
      match hl : lst s, hp with
      | a :: b :: q, _ => rw [hl] at this; simp at this; omega
    have s1 := cutTo s 2 (by omega) (by omega)
    rw [show (2 : Int).toNat = 2 from rfl] at s1
    generalize (lst s).take 2 = T at *
    clear hp EH
    go_enter Tryd.func17, Tryd.ntmps17
    go_wp2_with (go_at_call 27; refine (KP.out _).mono ?_; rintro e w1 ⟨rfl, rfl⟩)
    exact bodyPost_ret (v := .tuple #[tokV ⟨6, T, 0, 0, 0, 0, 0, 0, 0⟩, .int .i64 0]) (by simp [results, Tryd.results17, go_sem, tokV]) rfl ⟨rfl, by repeat first | exact (Below.refl _ _).alloc (Nat.le_refl _) _ | refine Below.setCell ?_ (by simp) _⟩
  | false =>
    rw [hp] at KP
    cases hm : mkN (s[0].toNat) with
    | true =>
      rw [show marT (lst s) = .tok ⟨6, (lst s).take 1, 0, 0, 0, 0, 0, 0, 0⟩ by unfold marT; rw [if_neg (by rw [hp]; simp), EH, if_pos hm]]
      rw [hm] at KM
      have s1 := cutTo s 1 (by omega) (by omega)
      rw [show (1 : Int).toNat = 1 from rfl] at s1
      generalize (lst s).take 1 = T at *
      clear hp EH hm
      go_enter Tryd.func17, Tryd.ntmps17
      go_wp2_with (first
        | (go_at_call 27; refine (KP.out _).mono ?_; rintro e w1 ⟨rfl, rfl⟩)
        | (go_at_call 28; refine (KM.out _).mono ?_; rintro e w1 ⟨rfl, rfl⟩))
      exact bodyPost_ret (v := .tuple #[tokV ⟨6, T, 0, 0, 0, 0, 0, 0, 0⟩, .int .i64 0]) (by simp [results, Tryd.results17, go_sem, tokV]) rfl ⟨rfl, by repeat first | exact (Below.refl _ _).alloc (Nat.le_refl _) _ | refine Below.setCell ?_ (by simp) _⟩
    | false =>
      rw [show marT (lst s) = .err 0 61 by unfold marT; rw [if_neg (by rw [hp]; simp), EH, if_neg (by rw [hm]; simp)]]
      rw [hm] at KM
      clear hp EH hm
      go_enter Tryd.func17, Tryd.ntmps17
      go_wp2_with (first
        | (go_at_call 27; refine (KP.out _).mono ?_; rintro e w1 ⟨rfl, rfl⟩)
        | (go_at_call 28; refine (KM.out _).mono ?_; rintro e w1 ⟨rfl, rfl⟩))
      exact bodyPost_ret (v := .tuple #[tokV tok0, .int .i64 61]) (by simp [results, Tryd.results17, go_sem, tokV, tok0, bs]) rfl ⟨rfl, by repeat first | exact (Below.refl _ _).alloc (Nat.le_refl _) _ | refine Below.setCell ?_ (by simp) _⟩
theorem com_index : ∀ l : L, (Lib.indexByte l 10 < 0 → (com l : Int) = l.length) ∧ (¬ Lib.indexByte l 10 < 0 → (com l : Int) = Lib.indexByte l 10)
  | [] => by simp [Lib.indexByte, com]
  | c :: l => by
    obtain ⟨h1, h2⟩ := com_index l
    have hg := Lib.indexByte_ge l 10
    by_cases hc : c = 10
    · subst hc
      simp [Lib.indexByte, com]
    · have hn : c.toNat ≠ 10 := fun e => hc (UInt8.toNat_inj.1 e)
      have e1 : com (c :: l) = com l + 1 := by simp [com, hn]
      have e2 : Lib.indexByte (c :: l) 10 = if Lib.indexByte l 10 == -1 then -1 else Lib.indexByte l 10 + 1 := by
        show (if c == 10 then _ else _) = _
        rw [if_neg (by simpa using hc)]
      rw [e1, e2]
      by_cases hi : Lib.indexByte l 10 = -1
      · rw [if_pos (by simp [hi])]
        have := h1 (by omega)
        constructor
        · intro _; simp only [List.length_cons]; omega
        · intro h; omega
      · rw [if_neg (by simpa using hi)]
        have := h2 (by omega)
        constructor
        · intro h; omega
        · intro h; omega
theorem commentLength_any (s : ByteArray) (w : World) (hs : s.size ≤ 9223372036854775806) :
    Calls Tryd.prog 8 #[.string s] w fun e w' => e = .returned (.int .i64 (com (lst s) : Nat)) ∧ w' = w := by
  obtain ⟨h1, h2⟩ := com_index (lst s)
  rw [lst_len] at h1
  have KI := Lib.hid (fun W => Tryd.strings_IndexByte s 10 W)
  change Hid (∀ W, Calls Tryd.prog 21 #[.string s, .int .u8 10] W fun e w' => e = .returned (.int .i64 (Lib.indexByte (lst s) 10)) ∧ w' = W) at KI
  generalize Lib.indexByte (lst s) 10 = I at *
  by_cases hi : I < 0
  · rw [h1 hi]
    clear h1 h2
    go_enter Tryd.func8, Tryd.ntmps8
    go_wp2_with (go_at_call 21; refine (KI.out _).mono ?_; rintro e w1 ⟨rfl, rfl⟩)
    go_ret
    exact ⟨rfl, rfl⟩
  · rw [h2 hi]
    clear h1 h2
    go_enter Tryd.func8, Tryd.ntmps8
    go_wp2_with (go_at_call 21; refine (KI.out _).mono ?_; rintro e w1 ⟨rfl, rfl⟩)
    go_ret
    exact ⟨rfl, rfl⟩
end Go.Proofs.YtlihkmhhfnkkoaaDoor
