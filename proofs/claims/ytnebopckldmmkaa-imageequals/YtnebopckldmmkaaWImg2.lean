/-
  WALKS: segments that are compared; programs that are compared.
-/
import Derived.Test.YtnebopckldmmkaaWImg1
namespace Go.Proofs.Ytnebopckldmmkaa
open Go.RowKit
set_option linter.unusedVariables false
set_option linter.unusedSimpArgs false
theorem allocBP (W : World) (o : Obj) : Below W.heap.size W (W.alloc o) := (Below.refl _ _).alloc (Nat.le_refl _) _
theorem drewBP (W : World) (q : Nat) : Below W.heap.size W (W.drewN q) := ⟨rfl, rfl, rfl, Nat.le_refl _, fun _ _ => rfl⟩
theorem alloc2 (W : World) (o o' : Obj) : Below W.heap.size W ((W.alloc o).alloc o') := ((Below.refl _ _).alloc (Nat.le_refl _) _).alloc (by simp) _
set_option maxRecDepth 100000 in
set_option maxHeartbeats 1000000 in
theorem sameSeg_any {w : World} {d d' : Int} {a a' : Option Addr} {n c n' c' : Nat} {l l' : List In} (h : IR w a n c l) (h' : IR w a' n' c' l') :
    Calls Try.prog 11 #[.agg #[.int .i64 d, .slice a n c], .agg #[.int .i64 d', .slice a' n' c']] w fun e w' => e = .returned (.bool (decide (d = d' ∧ l = l'))) ∧ Below w.heap.size w w' := by
  have KE := Lib.hid (fun W (b : Below w.heap.size w W) => eqI_any (h.later b) (h'.later b))
  clear h h'
  by_cases e : d = d'
  · subst e
    go_enter Try.func11, Try.ntmps11
    go_wp2_with (go_at_call 13; refine (KE.out _ (alloc2 w _ _)).mono ?_; rintro e w1 ⟨rfl, q, rfl⟩)
    go_ret
    exact ⟨retBP (by simp), (alloc2 w _ _).trans ((drewBP _ q).mono (by simp; omega))⟩
  · have e' : (d == d') = false := by simpa using e
    have R := Lib.hid (p := decide (d = d' ∧ l = l') = false) (decide_eq_false (fun q => e q.1))
    go_enter Try.func11, Try.ntmps11
    go_wp2
    go_ret
    exact ⟨retBP R.out.symm, alloc2 w _ _⟩
theorem cell_keepA {W : World} {b o : Nat} {v : Value} (h : W.cell? ⟨b, o, none⟩ = some v) (ob : Obj) : (W.alloc ob).cell? ⟨b, o, none⟩ = some v := by
  obtain ⟨b', o', e, hb⟩ := taddr_of h
  injection e with e1 e2
  subst e1 e2
  rw [(allocBP W ob).cell (p := ⟨b, o, none⟩) hb]
  exact h
def Sg.key (s : Sg) : Int × List In := (s.day, s.code)
theorem keys_eq {l l' : List Sg} (h : l.length = l'.length) (e : ∀ i, i < l.length → (l.getD i default).key = (l'.getD i default).key) : l.map Sg.key = l'.map Sg.key := by
  apply List.ext_getElem (by simpa using h)
  intro i h1 h2
  have := e i (by simpa using h1)
  simp at h1 h2
  simpa [List.getD, h1, h2] using this
theorem keys_at {l l' : List Sg} (h : l.map Sg.key = l'.map Sg.key) (i : Nat) : (l.getD i default).key = (l'.getD i default).key := by
  have := congrArg (fun m => m[i]?) h
  simp only [List.getElem?_map] at this
  simp only [List.getD]
  cases h1 : l[i]? <;> cases h2 : l'[i]? <;> rw [h1, h2] at this <;> simp at this ⊢
  exact this
theorem sg_mem {l : List Sg} {i : Nat} (h : i < l.length) : l.getD i default ∈ l := by
  rw [List.getD_eq_getElem?_getD, List.getElem?_eq_getElem h, Option.getD_some]; exact List.getElem_mem h
set_option maxRecDepth 100000 in
set_option maxHeartbeats 1000000 in
theorem eqF_any {w : World} {a a' : Option Addr} {n c n' c' : Nat} {l l' : List Sg} (h : GL w a n c l) (h' : GL w a' n' c' l') :
    Calls Try.prog 10 #[.slice a n c, .slice a' n' c', .func (.func 11) #[] #[]] w fun e w' => e = .returned (.bool (decide (l.map Sg.key = l'.map Sg.key))) ∧ Below w.heap.size w w' := by
  obtain ⟨_, l1, b1, g1, r1⟩ := h
  obtain ⟨_, l2, b2, g2, r2⟩ := h'
  by_cases hn : n = n'
  · subst hn
    have R1 := Lib.hid r1
    have R2 := Lib.hid r2
    have G1 := Lib.hid g1
    have G2 := Lib.hid g2
    have L1 := Lib.hid l1
    have L2 := Lib.hid l2
    clear l1 l2 r1 r2 g1 g2
    go_enter Try.func10, Try.ntmps10
    go_wp2
    go_loopw [17] (fun t wr => ∃ k : Nat, k ≤ n ∧ t = .int .i64 k ∧ RowKit.Hid (∀ i, i < k → (l.getD i default).key = (l'.getD i default).key) ∧ Below w.heap.size w wr) (fun t _ => n - (intOf t).toNat)
    case atStart => exact ⟨0, by omega, rfl, fun i hi => absurd hi (by omega), Below.refl _ _⟩
    case round =>
      rename World => wr
      obtain ⟨k, hk, rfl, hE, hB⟩ := hrel
      have BB := Lib.hid hB
      by_cases hlt : k < n
      · obtain ⟨x, o, y, p, rfl, rfl, hc⟩ := (R1.out.later hB).twoP (R2.out.later hB) (by omega)
        obtain ⟨c0, d0⟩ := hc k hlt 0 (by omega)
        obtain ⟨c1, d1⟩ := hc k hlt 1 (by omega)
        simp only [Sg.cs, Nat.add_zero, List.getD_cons_zero, List.getD_cons_succ] at c0 d0 c1 d1
        have kc : (k : Int) < (n : Int) := by omega
        have I1 := Lib.hid ((G1.out _ (sg_mem (i := k) (by rw [L1.out]; exact hlt))).2)
        have I2 := Lib.hid ((G2.out _ (sg_mem (i := k) (by rw [L2.out]; exact hlt))).2)
        have DK := Lib.hid (p := ∀ (z : Int × List In), l.map Sg.key = l'.map Sg.key → (l.getD k default).key = (l'.getD k default).key) (fun _ q => keys_at q k)
        have KK := Lib.hid hE.out
        clear hc hB
        by_cases e : (l.getD k default).day = (l'.getD k default).day ∧ (l.getD k default).code = (l'.getD k default).code
        · have NX := Lib.hid (p := ∀ i, i < k + 1 → (l.getD i default).key = (l'.getD i default).key) (fun i hi => by
            rcases (show i < k ∨ i = k by omega) with r | r
            · exact KK.out i r
            · rw [r]; unfold Sg.key; rw [e.1, e.2])
          have KE := Lib.hid (p := ∀ W, Below w.heap.size w W → Calls Try.prog 11 #[.agg #[.int .i64 (l.getD k default).day, .slice (l.getD k default).ca (l.getD k default).code.length (l.getD k default).cc], .agg #[.int .i64 (l'.getD k default).day, .slice (l'.getD k default).ca (l'.getD k default).code.length (l'.getD k default).cc]] W fun e w' => e = .returned (.bool true) ∧ Below W.heap.size W w') (fun W b => by
            have := sameSeg_any (d := (l.getD k default).day) (d' := (l'.getD k default).day) (I1.out.later b) (I2.out.later b)
            rwa [decide_eq_true e] at this)
          clear e
          generalize l.getD k default = s1 at *
          generalize l'.getD k default = s2 at *
          obtain ⟨y1, ya, yc, yl⟩ := s1
          obtain ⟨z1, za, zc, zl⟩ := s2
          simp only at c0 d0 c1 d1
          have d0' := cell_keepA d0 (.cells #[.int .i64 y1, .slice ya yl.length yc] 31)
          have d1' := cell_keepA d1 (.cells #[.int .i64 y1, .slice ya yl.length yc] 31)
          go_wp2_with (go_at_call 11; refine (KE.out _ ((BB.out.alloc BB.out.size _).alloc (Nat.le_trans BB.out.size (by simp)) _)).mono ?_; rintro e w1 ⟨rfl, h1⟩; have B1 := Lib.hid (((BB.out.alloc BB.out.size _).alloc (Nat.le_trans BB.out.size (by simp)) _).trans (h1.mono (Nat.le_trans BB.out.size (by simp; omega)))); clear h1)
          go_roundw
          case rel => exact ⟨k + 1, by omega, by go_num, NX.out, B1.out⟩
          case measure => simp [intOf]; omega
        · have R := Lib.hid (p := decide (l.map Sg.key = l'.map Sg.key) = false) (decide_eq_false (fun q => e (by have := keys_at q k; unfold Sg.key at this; injection this with q1 q2; exact ⟨q1, q2⟩)))
          have KE := Lib.hid (p := ∀ W, Below w.heap.size w W → Calls Try.prog 11 #[.agg #[.int .i64 (l.getD k default).day, .slice (l.getD k default).ca (l.getD k default).code.length (l.getD k default).cc], .agg #[.int .i64 (l'.getD k default).day, .slice (l'.getD k default).ca (l'.getD k default).code.length (l'.getD k default).cc]] W fun e w' => e = .returned (.bool false) ∧ Below W.heap.size W w') (fun W b => by
            have := sameSeg_any (d := (l.getD k default).day) (d' := (l'.getD k default).day) (I1.out.later b) (I2.out.later b)
            rwa [decide_eq_false e] at this)
          clear e
          generalize l.getD k default = s1 at *
          generalize l'.getD k default = s2 at *
          obtain ⟨y1, ya, yc, yl⟩ := s1
          obtain ⟨z1, za, zc, zl⟩ := s2
          simp only at c0 d0 c1 d1
          have d0' := cell_keepA d0 (.cells #[.int .i64 y1, .slice ya yl.length yc] 31)
          have d1' := cell_keepA d1 (.cells #[.int .i64 y1, .slice ya yl.length yc] 31)
          go_wp2_with (go_at_call 11; refine (KE.out _ ((BB.out.alloc BB.out.size _).alloc (Nat.le_trans BB.out.size (by simp)) _)).mono ?_; rintro e w1 ⟨rfl, h1⟩; have B1 := Lib.hid (((BB.out.alloc BB.out.size _).alloc (Nat.le_trans BB.out.size (by simp)) _).trans (h1.mono (Nat.le_trans BB.out.size (by simp; omega)))); clear h1)
          go_ret
          exact ⟨retBP R.out.symm, B1.out⟩
      · obtain rfl : k = n := by omega
        have R := Lib.hid (p := decide (l.map Sg.key = l'.map Sg.key) = true) (decide_eq_true (keys_eq (by rw [L1.out, L2.out]) (fun i hi => hE.out i (by rw [L1.out] at hi; exact hi))))
        clear hB
        go_wp2
        go_ret
        exact ⟨retBP R.out.symm, BB.out⟩
  · have R := Lib.hid (p := decide (l.map Sg.key = l'.map Sg.key) = false) (decide_eq_false (fun q => hn (by have := congrArg List.length q; simp at this; omega)))
    have hn' : ((n : Int) == (n' : Int)) = false := by simp; omega
    have hn2 : ((n : Int) != (n' : Int)) = true := by simp; omega
    go_enter Try.func10, Try.ntmps10
    go_wp2
    go_ret
    exact ⟨retBP R.out.symm, Below.refl _ _⟩
end Go.Proofs.Ytnebopckldmmkaa
