/-
  WALKS: keywords, Keyword, isName, Small, Capital, Currency.
-/
import Derived.Test.YteedkcmjhdabeaaDoorWLexN1
import Derived.Maps.OwnSet
namespace Go.Proofs.YteedkcmjhdabeaaDoor
open Go.RowKit Go.Maps Lx
set_option linter.unusedVariables false
set_option linter.unusedSimpArgs false

def litS (c : ByteArray) : Lit := .string c.data.toList
theorem litS_ne {c c' : ByteArray} (h : lst c' ≠ lst c) : litS c' ≠ litS c := fun e => h (by
  unfold litS at e
  injection e with e)
theorem lawS : Keyed Tryd.prog 9 := string_keyed Tryd.underlying9
theorem keyS {c : ByteArray} (h : c.size ≤ 9223372036854775807) : keyOf Tryd.prog 9 (.string c) = some (litS c) := WideMaps.keyOf_string_mk Tryd.underlying9 (by unfold maxLen; omega)
/-- A set of texts in memory. -/
structure KSet (w0 w : World) (mb : Nat) (ks : List L) : Prop where
  ow : ∃ D : DataW Unit, w.ownsMap Tryd.prog 9 unitElem mb ks.length D ∧ IsMap D ∧ ∀ c, Maps.has D (litS c) = decide (lst c ∈ ks)
  bel : Below w0.heap.size w0 w
  low : w0.heap.size ≤ mb
  lt : mb < w.heap.size
theorem kset_new (w : World) : KSet w (w.alloc (.map #[] 0)) w.heap.size [] :=
  ⟨⟨.map [], World.ownsMap_made w Tryd.prog 9 (unitElem (H := Unit)), isMap_empty, fun c => rfl⟩, (Below.refl _ w).alloc (Nat.le_refl _) _, Nat.le_refl _, by simp⟩
theorem kw_rev (l : L) : decide (l ∈ kwL.reverse) = kwB l := by
  unfold kwB
  by_cases h : l ∈ kwL
  · rw [decide_eq_true h, decide_eq_true (List.mem_reverse.2 h)]
  · rw [decide_eq_false h, decide_eq_false (fun k => h (List.mem_reverse.1 k))]
theorem isEmpty_lst (s : ByteArray) : s.toList.isEmpty = (lst s).isEmpty := by
  obtain ⟨⟨l⟩⟩ := s
  rw [ByteArray.toList_mk]; rfl
set_option maxHeartbeats 1000000 in
theorem isName_capital (s : ByteArray) (w : World) (hs : s.size ≤ 9223372036854775807) :
    Calls Tryd.prog 48 #[.string s, .func (.func 49) #[] #[]] w fun e w' => e = .returned (.bool (nameB cpN (lst s))) ∧ w' = w := by
  by_cases h0 : s.size = 0
  · have e0 : (lst s).isEmpty = true := by
      have := lst_len s
      cases hl : lst s with
      | nil => rfl
      | cons c q => rw [hl] at this; simp at this; omega
    have e1 : s.toList.isEmpty = true := by rw [isEmpty_lst]; exact e0
    rw [show nameB cpN (lst s) = false by unfold nameB; rw [e0]; rfl]
    clear e0
    go_enter Tryd.func48, Tryd.ntmps48
    go_wp2
    go_ret
    exact ⟨rfl, rfl⟩
  · have h1 : 0 < s.size := by omega
    have e0 : (lst s).isEmpty = false := by
      have := lst_len s
      cases hl : lst s with
      | nil => rw [hl] at this; simp at this; omega
      | cons c q => rfl
    have e1 : s.toList.isEmpty = false := by rw [isEmpty_lst]; exact e0
    have EH : (List.headD (lst s) 0).toNat = s[0].toNat := by
      rw [← nth_lst h1]
      cases hl : lst s <;> rfl
    have KL := Lib.hid (fun W => isCapital_any (s[0].toNat) W)
    have NB : nameB cpN (lst s) = (cpN (s[0].toNat) && decide ((nameE cpN (lst s)).2 = 0)) := by unfold nameB; rw [e0, EH]; rfl
    rw [NB]
    cases hp : cpN (s[0].toNat) with
    | false =>
      rw [hp] at KL
      clear e0 EH NB hp
      go_enter Tryd.func48, Tryd.ntmps48
      go_wp2_with (go_at_call 49; refine (KL.out _).mono ?_; rintro e w1 ⟨rfl, rfl⟩)
      go_ret
      exact ⟨rfl, rfl⟩
    | true =>
      rw [hp] at KL
      have KN := Lib.hid (fun W => nameErrorM_capital s W hs)
      clear e0 EH NB hp
      generalize nameE cpN (lst s) = ne at *
      obtain ⟨ni, er⟩ := ne
      simp only at KN ⊢
      by_cases her : er = 0
      · subst her
        rw [decide_eq_true rfl]
        go_enter Tryd.func48, Tryd.ntmps48
        go_wp2_with (first
          | (go_at_call 49; refine (KL.out _).mono ?_; rintro e w1 ⟨rfl, rfl⟩)
          | (go_at_call 55; refine (KN.out _).mono ?_; rintro e w1 ⟨rfl, rfl⟩))
        go_ret
        exact ⟨rfl, rfl⟩
      · rw [decide_eq_false her]
        have er0 : (er == 0) = false := by rw [beq_eq_false_iff_ne]; exact her
        go_enter Tryd.func48, Tryd.ntmps48
        go_wp2_with (first
          | (go_at_call 49; refine (KL.out _).mono ?_; rintro e w1 ⟨rfl, rfl⟩)
          | (go_at_call 55; refine (KN.out _).mono ?_; rintro e w1 ⟨rfl, rfl⟩))
        go_ret
        exact ⟨by simp [her], rfl⟩

def smlB (l : L) : Bool := nameB smN l && !kwB l
theorem capital_any (s : ByteArray) (w : World) (hs : s.size ≤ 9223372036854775807) : Calls Tryd.prog 37 #[.string s] w fun e w' => e = .returned (.bool (nameB cpN (lst s))) ∧ w' = w := by
  have KI := Lib.hid (fun W => isName_capital s W hs)
  go_enter Tryd.func37, Tryd.ntmps37
  go_wp2_with (go_at_call 48; refine (KI.out _).mono ?_; rintro e w1 ⟨rfl, rfl⟩)
  go_ret
  exact ⟨rfl, rfl⟩
theorem three_of {s : ByteArray} (h : s.size = 3) : lst s = [s[0], s[1], s[2]] := by
  have hl := lst_len s
  apply List.ext_getElem
  · rw [hl]; exact h
  · intro i h1 h2
    have e : ∀ k (hk : k < s.size) (hk' : k < (lst s).length), (lst s)[k]'hk' = s[k]'hk := fun k hk hk' => by
      have := nth_lst hk
      simp only [nthN] at this
      rw [List.getD_eq_getElem?_getD, List.getElem?_eq_getElem hk', Option.getD_some] at this
      exact UInt8.toNat_inj.1 this
    match i, h1, h2 with
    | 0, h1, _ => exact e 0 (by omega) h1
    | 1, h1, _ => exact e 1 (by omega) h1
    | 2, h1, _ => exact e 2 (by omega) h1
set_option maxHeartbeats 1000000 in
theorem currency_any (s : ByteArray) (w : World) : Calls Tryd.prog 39 #[.string s] w fun e w' => e = .returned (.bool (curB (lst s))) ∧ w' = w := by
  by_cases h3 : s.size = 3
  · have h3' : (s.size : Int) = 3 := by omega
    have hb : ((s.size : Int) == 3) = true := by rw [h3]; rfl
    have z0 : 0 < s.size := by omega
    have z1 : 1 < s.size := by omega
    have z2 : 2 < s.size := by omega
    have EC : curB (lst s) = (cpN (s[0]'z0).toNat && cpN (s[1]'z1).toNat && cpN (s[2]'z2).toNat) := by rw [three_of h3]; rfl
    rw [EC]
    clear EC
    have K0 := Lib.hid (fun W => isCapital_any (s[0].toNat) W)
    have K1 := Lib.hid (fun W => isCapital_any (s[1].toNat) W)
    have K2 := Lib.hid (fun W => isCapital_any (s[2].toNat) W)
    cases c0 : cpN (s[0].toNat) with
    | false =>
      rw [c0] at K0
      clear h3 h3'
      go_enter Tryd.func39, Tryd.ntmps39
      go_wp2_with (go_at_call 49; refine (K0.out _).mono ?_; rintro e w1 ⟨rfl, rfl⟩)
      go_ret
      exact ⟨rfl, rfl⟩
    | true =>
      rw [c0] at K0
      cases c1 : cpN (s[1].toNat) with
      | false =>
        rw [c1] at K1
        clear h3 h3'
        go_enter Tryd.func39, Tryd.ntmps39
        go_wp2_with (first
          | (go_at_call 49; have qq := K0; refine (K0.out _).mono ?_; rintro e w1 ⟨rfl, rfl⟩; clear K0)
          | (go_at_call 49; refine (K1.out _).mono ?_; rintro e w1 ⟨rfl, rfl⟩))
        go_ret
        exact ⟨rfl, rfl⟩
      | true =>
        rw [c1] at K1
        generalize cpN (s[2].toNat) = b2 at *
        clear h3 h3'
        go_enter Tryd.func39, Tryd.ntmps39
        go_wp2_with (first
          | (go_at_call 49; have qq := K0; refine (K0.out _).mono ?_; rintro e w1 ⟨rfl, rfl⟩; clear K0)
          | (go_at_call 49; have qq := K1; refine (K1.out _).mono ?_; rintro e w1 ⟨rfl, rfl⟩; clear K1)
          | (go_at_call 49; refine (K2.out _).mono ?_; rintro e w1 ⟨rfl, rfl⟩))
        go_ret
        exact ⟨rfl, rfl⟩
  · have h3' : ¬ (s.size : Int) = 3 := by omega
    have hb : ((s.size : Int) == 3) = false := by rw [beq_eq_false_iff_ne]; exact h3'
    have e : curB (lst s) = false := by
      have := lst_len s
      match hl : lst s with
      | [] => rfl
      | [a] => rfl
      | [a, b] => rfl
      | [a, b, c] => rw [hl] at this; simp at this; omega
      | a :: b :: c :: d :: q => rfl
    rw [e]
    clear e h3
    go_enter Tryd.func39, Tryd.ntmps39
    go_wp2
    go_ret
    exact ⟨rfl, rfl⟩
end Go.Proofs.YteedkcmjhdabeaaDoor
