/-
  WALKS: digitToken, dateToken.
-/
import Derived.Test.YtlihkmhhfnkkoaaDoorWLex6
namespace Go.Proofs.YtlihkmhhfnkkoaaDoor
open Go.RowKit Lx
set_option linter.unusedVariables false
set_option linter.unusedSimpArgs false

theorem last_nth {l : L} (h : l ≠ []) : lastN l = nthN l (l.length - 1) := by
  unfold lastN nthN
  rw [List.getLast?_eq_getElem?, List.getD_eq_getElem?_getD]
theorem numberOf_no (s : ByteArray) (w : World) (h1 : 1 ≤ s.size) (hs : s.size ≤ 65536) (hE : Ev w) (h : numO (lst s) = none) :
    Calls Tryd.prog 26 #[.string s] w fun e w' => ∃ v, e = .returned (.tuple #[.int .i64 v, .bool false]) ∧ Below w.heap.size w w' := by
  refine (numberOf_any s w h1 hs hE).mono ?_
  rintro e w' ⟨⟨v, rfl, _⟩, hb⟩
  rw [h]
  exact ⟨v, rfl, hb⟩
theorem numberOf_yes (s : ByteArray) (w : World) (h1 : 1 ≤ s.size) (hs : s.size ≤ 65536) (hE : Ev w) (n : Int) (h : numO (lst s) = some n) :
    Calls Tryd.prog 26 #[.string s] w fun e w' => e = .returned (.tuple #[.int .i64 n, .bool true]) ∧ Below w.heap.size w w' := by
  refine (numberOf_any s w h1 hs hE).mono ?_
  rintro e w' ⟨⟨v, rfl, hv⟩, hb⟩
  rw [h, hv n h]
  exact ⟨rfl, hb⟩
/-- A token's box. -/
abbrev tokB (t : Tok) : Array Value := #[.int .i64 t.k, .string (bs t.t), .int .i64 t.a, .int .i64 t.num, .int .i64 t.y, .int .i64 t.m, .int .i64 t.d, .int .i64 t.n, .int .i64 t.u]
structure TB (w : World) (g : Nat) (a0 a1 a2 a3 a4 a5 a6 a7 a8 : Value) : Prop where
  c0 : w.cell? ⟨g, 0, none⟩ = some a0
  c1 : w.cell? ⟨g, 1, none⟩ = some a1
  c2 : w.cell? ⟨g, 2, none⟩ = some a2
  c3 : w.cell? ⟨g, 3, none⟩ = some a3
  c4 : w.cell? ⟨g, 4, none⟩ = some a4
  c5 : w.cell? ⟨g, 5, none⟩ = some a5
  c6 : w.cell? ⟨g, 6, none⟩ = some a6
  c7 : w.cell? ⟨g, 7, none⟩ = some a7
  c8 : w.cell? ⟨g, 8, none⟩ = some a8
  f : ∀ i, w.frozen? ⟨g, i, none⟩ = false
theorem box_tok {w : World} {g : Nat} {a0 a1 a2 a3 a4 a5 a6 a7 a8 : Value} {T : TypeId} (h : w.heap[g]? = some (.cells #[a0, a1, a2, a3, a4, a5, a6, a7, a8] T)) : TB w g a0 a1 a2 a3 a4 a5 a6 a7 a8 := by
  refine ⟨?_, ?_, ?_, ?_, ?_, ?_, ?_, ?_, ?_, fun i => Joins.unfrozen_of_block h i⟩ <;> simp [World.cell?, h]
theorem alloc_kept {w w1 : World} {o : Obj} (b : Below (w.alloc o).heap.size (w.alloc o) w1) : w1.heap[w.heap.size]? = some o := (b.block _ (by simp)).trans (World.alloc_heap_new w o)
theorem size_kept {w w1 : World} {o : Obj} (b : Below (w.alloc o).heap.size (w.alloc o) w1) : w.heap.size < w1.heap.size := by have := b.size; simp at this; omega
theorem alloc_below {w w1 : World} {o : Obj} (b : Below (w.alloc o).heap.size (w.alloc o) w1) : Below w.heap.size w w1 := ((Below.refl _ w).alloc (Nat.le_refl _) _).trans (b.mono (by simp))
set_option maxHeartbeats 1000000 in
theorem digitToken_any (s : ByteArray) (w : World) (h1 : 1 ≤ s.size) (hs : s.size ≤ 65536) (hE : Ev w) (hd : dgN (nthN (lst s) 0) = true) :
    Calls Tryd.prog 12 #[.string s] w fun e w' => e = stEnd (digT (lst s)) ∧ Below w.heap.size w w' := by
  have hlen := lst_len s
  have hne : lst s ≠ [] := by intro e; rw [e] at hlen; simp at hlen; omega
  have hlt : s.size - 1 < s.size := by omega
  have HL : lastN (lst s) = s[s.size - 1].toNat := by rw [last_nth hne, hlen, nth_lst hlt]
  have KU := Lib.hid (fun W => unitOf_any (s[s.size - 1].toNat) W)
  have kw : IntKind.i64.wrap ((s.size : Int) - 1) = (s.size : Int) - 1 := by simp [IntKind.wrap, IntKind.bits, IntKind.signed]; omega
  have EVA := Lib.hid (p := ∀ o, Ev (w.alloc o)) (fun o => ev_below hE ((Below.refl _ w).alloc (Nat.le_refl _) _))
  clear hE
  by_cases hu : unN (s[s.size - 1].toNat) = 0
  · have D0 : digT (lst s) = match numO (lst s) with | none => .err 0 62 | some n => .tok ⟨3, lst s, 0, n, 0, 0, 0, 0, 0⟩ := by
      unfold digT; rw [HL, if_pos hu]; split <;> simp_all
    rw [hu] at KU
    rw [D0]
    cases hN : numO (lst s) with
    | none =>
      have KN := Lib.hid (fun W hE => numberOf_no s W h1 hs hE hN)
      clear hN D0 HL hd hlen hne hu
      go_enter Tryd.func12, Tryd.ntmps12
      go_wp2_with (first
        | (go_at_call 25; refine (KU.out _).mono ?_; rintro e w1 ⟨rfl, rfl⟩)
        | (go_at_call 26; refine (KN.out _ (EVA.out _)).mono ?_; rintro e w1 ⟨v, rfl, b1⟩; have B1 := Lib.hid (alloc_below b1); obtain ⟨c0, c1, c2, c3, c4, c5, c6, c7, c8, ff⟩ := box_tok (alloc_kept b1); have z0 := size_kept b1; clear b1))
      exact bodyPost_ret (v := .tuple #[tokV tok0, .int .i64 62]) (by simp [results, Tryd.results12, go_sem, tokV, tok0, bs, c0, c1, c2, c3, c4, c5, c6, c7, c8, ff]) rfl ⟨rfl, by (repeat refine Below.setCell ?_ (by simp) _); exact B1.out⟩
    | some n =>
      have KN := Lib.hid (fun W hE => numberOf_yes s W h1 hs hE n hN)
      have ES := bs_lst s
      clear hN D0 HL hd hlen hne hu
      go_enter Tryd.func12, Tryd.ntmps12
      go_wp2_with (first
        | (go_at_call 25; refine (KU.out _).mono ?_; rintro e w1 ⟨rfl, rfl⟩)
        | (go_at_call 26; refine (KN.out _ (EVA.out _)).mono ?_; rintro e w1 ⟨rfl, b1⟩; have B1 := Lib.hid (alloc_below b1); obtain ⟨c0, c1, c2, c3, c4, c5, c6, c7, c8, ff⟩ := box_tok (alloc_kept b1); have z0 := size_kept b1; clear b1))
      exact bodyPost_ret (v := .tuple #[tokV ⟨3, lst s, 0, n, 0, 0, 0, 0, 0⟩, .int .i64 0]) (by simp [results, Tryd.results12, go_sem, tokV, ES, c0, c1, c2, c3, c4, c5, c6, c7, c8, ff]) rfl ⟨rfl, by (repeat refine Below.setCell ?_ (by simp) _); exact B1.out⟩
  · have D0 : digT (lst s) = match numO (lst s).dropLast with | none => .err 0 62 | some n => if n < 1 ∨ 999 < n then .err 0 62 else .tok ⟨5, lst s, 0, 0, 0, 0, 0, n, unN (s[s.size - 1].toNat)⟩ := by
      unfold digT; rw [HL, if_neg hu]; split <;> simp_all
    have h2 : 2 ≤ s.size := by
      rcases Nat.lt_or_ge s.size 2 with q | q
      · exfalso
        rw [nth_lst (by omega)] at hd
        have e0 : s.size - 1 = 0 := by omega
        have : unN (s[0].toNat) = 0 := by
          simp only [dgN, Bool.and_eq_true, decide_eq_true_eq] at hd
          unfold unN
          rw [if_neg (by omega), if_neg (by omega), if_neg (by omega), if_neg (by omega)]
        simp only [e0] at hu
        exact hu this
      · exact q
    have s1 := cutTo s ((s.size : Int) - 1) (by omega) (by omega)
    rw [show (List.take ((s.size : Int) - 1).toNat (lst s)) = (lst s).dropLast by rw [List.dropLast_eq_take, hlen, show ((s.size : Int) - 1).toNat = s.size - 1 by omega]] at s1
    obtain ⟨d, hdd⟩ : ∃ d, (lst s).dropLast = d := ⟨_, rfl⟩
    have hdl : d.length = s.size - 1 := by rw [← hdd, List.length_dropLast, hlen]
    rw [hdd] at s1 D0
    obtain ⟨u, hu'⟩ : ∃ u, unN (s[s.size - 1].toNat) = u := ⟨_, rfl⟩
    rw [hu'] at KU D0 hu
    have un0 : (u != 0) = true := by rw [bne_iff_ne]; exact hu
    rw [D0]
    have ES := bs_lst s
    cases hN : numO d with
    | none =>
      have KN := Lib.hid (fun W hE => numberOf_no (bs d) W (by rw [bs_size]; omega) (by rw [bs_size]; omega) hE (by rw [lst_bs]; exact hN))
      clear hN D0 HL hd hlen hne hdd hdl hu'
      generalize bs d = sd at *
      go_enter Tryd.func12, Tryd.ntmps12
      go_wp2_with (first
        | (go_at_call 25; refine (KU.out _).mono ?_; rintro e w1 ⟨rfl, rfl⟩)
        | (go_at_call 26; refine (KN.out _ (EVA.out _)).mono ?_; rintro e w1 ⟨v, rfl, b1⟩; have B1 := Lib.hid (alloc_below b1); obtain ⟨c0, c1, c2, c3, c4, c5, c6, c7, c8, ff⟩ := box_tok (alloc_kept b1); have z0 := size_kept b1; clear b1))
      exact bodyPost_ret (v := .tuple #[tokV tok0, .int .i64 62]) (by simp [results, Tryd.results12, go_sem, tokV, tok0, bs, c0, c1, c2, c3, c4, c5, c6, c7, c8, ff]) rfl ⟨rfl, by (repeat refine Below.setCell ?_ (by simp) _); exact B1.out⟩
    | some n =>
      have KN := Lib.hid (fun W hE => numberOf_yes (bs d) W (by rw [bs_size]; omega) (by rw [bs_size]; omega) hE n (by rw [lst_bs]; exact hN))
      clear hN D0 HL hd hlen hne hdd hdl hu'
      generalize bs d = sd at *
      by_cases hr : n < 1 ∨ 999 < n
      · simp only [if_pos hr]
        rcases (show n < 1 ∨ (¬ n < 1 ∧ 999 < n) by omega) with q | ⟨q, q'⟩
        all_goals
          go_enter Tryd.func12, Tryd.ntmps12
          go_wp2_with (first
            | (go_at_call 25; refine (KU.out _).mono ?_; rintro e w1 ⟨rfl, rfl⟩)
            | (go_at_call 26; refine (KN.out _ (EVA.out _)).mono ?_; rintro e w1 ⟨rfl, b1⟩; have B1 := Lib.hid (alloc_below b1); obtain ⟨c0, c1, c2, c3, c4, c5, c6, c7, c8, ff⟩ := box_tok (alloc_kept b1); have z0 := size_kept b1; clear b1))
          exact bodyPost_ret (v := .tuple #[tokV tok0, .int .i64 62]) (by simp [results, Tryd.results12, go_sem, tokV, tok0, bs, c0, c1, c2, c3, c4, c5, c6, c7, c8, ff]) rfl ⟨rfl, by (repeat refine Below.setCell ?_ (by simp) _); exact B1.out⟩
      · simp only [if_neg hr]
        have q : decide (n < 1) = false := decide_eq_false (by omega)
        have q' : ¬ 999 < n := by omega
        clear hr
        go_enter Tryd.func12, Tryd.ntmps12
        go_wp2_with (first
          | (go_at_call 25; refine (KU.out _).mono ?_; rintro e w1 ⟨rfl, rfl⟩)
          | (go_at_call 26; refine (KN.out _ (EVA.out _)).mono ?_; rintro e w1 ⟨rfl, b1⟩; have B1 := Lib.hid (alloc_below b1); obtain ⟨c0, c1, c2, c3, c4, c5, c6, c7, c8, ff⟩ := box_tok (alloc_kept b1); have z0 := size_kept b1; clear b1))
        exact bodyPost_ret (v := .tuple #[tokV ⟨5, lst s, 0, 0, 0, 0, 0, n, u⟩, .int .i64 0]) (by simp [results, Tryd.results12, go_sem, tokV, ES, c0, c1, c2, c3, c4, c5, c6, c7, c8, ff]) rfl ⟨rfl, by (repeat refine Below.setCell ?_ (by simp) _); exact B1.out⟩
end Go.Proofs.YtlihkmhhfnkkoaaDoor
