/-
  WALK: the reader's word.
-/
import Derived.Test.YthkeoeobpdminaaDoorWTRd1
namespace Go.Proofs.YthkeoeobpdminaaDoor
open Go.RowKit
set_option linter.unusedVariables false
set_option linter.unusedSimpArgs false

theorem TR.next {w : World} {g : Nat} {s : ByteArray} {k pl n : Nat} {m nm rw : Value} (h : TR w g s k pl m nm rw) (hk : k < s.size) : TR ((w.drewN n).setCell ⟨g, 1, none⟩ (.int .i64 ((k : Int) + 1))) g s (k + 1) pl m nm rw := by
  have := (h.drewN n).setAt (k + 1) (by omega)
  rwa [Int.natCast_add] at this
set_option maxRecDepth 100000 in
set_option maxHeartbeats 4000000 in
theorem word_any (g : Nat) (s : ByteArray) (at_ pl p q : Nat) (m nm rw : Value) (w : World) (h : TR w g s at_ pl m nm rw) (hp : at_ ≤ p) (hq : p ≤ q) (hs : q ≤ s.size)
    (hB : ∀ j, at_ ≤ j → j < p → blB (bt s j) = true) (hP : blB (bt s p) = false ∧ (bt s p == 35) = false) (hQ : ∀ j, p ≤ j → j < q → wdB (bt s j) = true) (hE : wdB (bt s q) = false) :
    Calls Tryd.prog 35 #[.pointer (some ⟨g, 0, none⟩)] w fun e w' => e = .returned (.string (s.extract p q)) ∧ TR w' g s q p m nm rw ∧ Gr g w w' := by
  have T0 := Lib.hid h
  have sz := h.sz
  have BQ := Lib.hid hB
  have PQ := Lib.hid hP
  have QQ := Lib.hid hQ
  have EE := Lib.hid hE
  clear h hB hP hQ hE
  go_enter Tryd.func35, Tryd.ntmps35
  go_wp2
  go_loopw [24] (fun t wr => ∃ k : Nat, at_ ≤ k ∧ k ≤ p ∧ TR wr g s k pl m nm rw ∧ Gr g w wr) (fun t wr => s.size - posT g wr)
  case atStart => exact ⟨at_, Nat.le_refl _, hp, T0.out, Gr.refl g w⟩
  case round =>
    rename World => wr
    obtain ⟨k, kl, kp, hT, hG⟩ := hrel
    have TT := Lib.hid hT
    have GG := Lib.hid hG
    have PS := Lib.hid hT.pos
    obtain ⟨h0, h1, h2, h3, h4, h5⟩ := hT.c
    have f1 := hT.f 1
    have f2 := hT.f 2
    clear hT hG
    by_cases hk : k < p
    · have ks : k < s.size := by omega
      have kc : (k : Int) < (s.size : Int) := by omega
      have YB := BQ.out k kl hk
      obtain ⟨c, hc⟩ : ∃ c : Nat, s[k].toNat = c := ⟨_, rfl⟩
      rw [bt_lt ks, hc] at YB
      have KB := Lib.hid (fun W => isBlank_any (c : Int) W)
      rw [YB] at KB
      have kw : IntKind.i64.wrap ((k : Int) + 1) = (k : Int) + 1 := by simp [IntKind.wrap, IntKind.bits, IntKind.signed]; omega
      clear YB
      go_wp2
      go_quiet ((go_at_call 54; exact Calls.quiet_of_same (KB.out _)))
      go_wp2
      refine ⟨⟨k + 1, by omega, by omega, ?_, ?_⟩, ?_⟩
      · exact TT.out.next ks
      · exact (GG.out.drewN _).set 1 _
      · rw [PS.out, (TT.out.next ks).pos]; omega
    · obtain rfl : k = p := by omega
      by_cases ks : k < s.size
      · have kc : (k : Int) < (s.size : Int) := by omega
        obtain ⟨YB, YH⟩ := PQ.out
        obtain ⟨c, hc⟩ : ∃ c : Nat, s[k].toNat = c := ⟨_, rfl⟩
        rw [bt_lt ks, hc] at YB YH
        have KB := Lib.hid (fun W => isBlank_any (c : Int) W)
        rw [YB] at KB
        clear YB
        go_wp2
        go_quiet ((go_at_call 54; exact Calls.quiet_of_same (KB.out _)))
        go_wp2
        go_quiet (fail)
        go_wp2
        clear h0 h1 h2 h3 h4 h5 f1 f2
        go_loopw [84] (fun t wr => ∃ i : Nat, k ≤ i ∧ i ≤ q ∧ TR wr g s i k m nm rw ∧ Gr g w wr) (fun t wr => s.size - posT g wr)
        case atStart => exact ⟨k, Nat.le_refl _, hq, (TT.out.drewN _).setPl _, (GG.out.drewN _).set 2 _⟩
        case round =>
          rename World => wt
          obtain ⟨i, il, iq, hT, hG⟩ := hrel
          have TU := Lib.hid hT
          have GU := Lib.hid hG
          have PU := Lib.hid hT.pos
          obtain ⟨h0, h1, h2, h3, h4, h5⟩ := hT.c
          have f1 := hT.f 1
          clear hT hG
          by_cases hi : i < q
          · have is : i < s.size := by omega
            have kc : (i : Int) < (s.size : Int) := by omega
            have YW := QQ.out i il hi
            obtain ⟨c, hc⟩ : ∃ c : Nat, s[i].toNat = c := ⟨_, rfl⟩
            rw [bt_lt is, hc] at YW
            have c0 : 0 ≤ (c : Int) := by omega
            have KC := Lib.hid (fun W => isOfWord_any (c : Int) c0 W)
            rw [YW] at KC
            have kw : IntKind.i64.wrap ((i : Int) + 1) = (i : Int) + 1 := by simp [IntKind.wrap, IntKind.bits, IntKind.signed]; omega
            clear YW c0
            go_wp2
            go_quiet ((go_at_call 56; exact Calls.quiet_of_same (KC.out _)))
            go_wp2
            refine ⟨⟨i + 1, by omega, by omega, ?_, ?_⟩, ?_⟩
            · exact TU.out.next is
            · exact (GU.out.drewN _).set 1 _
            · rw [PU.out, (TU.out.next is).pos]; omega
          · obtain rfl : i = q := by omega
            by_cases is : i < s.size
            · have kc : (i : Int) < (s.size : Int) := by omega
              have YW := EE.out
              obtain ⟨c, hc⟩ : ∃ c : Nat, s[i].toNat = c := ⟨_, rfl⟩
              rw [bt_lt is, hc] at YW
              have c0 : 0 ≤ (c : Int) := by omega
              have KC := Lib.hid (fun W => isOfWord_any (c : Int) c0 W)
              rw [YW] at KC
              clear YW c0
              go_wp2
              go_quiet ((go_at_call 56; exact Calls.quiet_of_same (KC.out _)))
              go_wp2
              go_quiet (fail)
              go_wp2
              go_ret
              exact ⟨rfl, (TU.out.drewN _).drewN _, (GU.out.drewN _).drewN _⟩
            · have kc : ¬ (i : Int) < (s.size : Int) := by omega
              have k2 : decide (i < s.size) = false := decide_eq_false is
              have k3 : decide ((i : Int) < (s.size : Int)) = false := decide_eq_false kc
              go_wp2
              go_quiet (fail)
              go_wp2
              go_quiet (fail)
              go_wp2
              go_ret
              exact ⟨rfl, (TU.out.drewN _).drewN _, (GU.out.drewN _).drewN _⟩
      · have kc : ¬ (k : Int) < (s.size : Int) := by omega
        have k2 : decide (k < s.size) = false := decide_eq_false ks
        have k3 : decide ((k : Int) < (s.size : Int)) = false := decide_eq_false kc
        go_wp2
        go_quiet (fail)
        go_wp2
        go_quiet (fail)
        go_wp2
        clear kc k2 k3
        clear h0 h1 h2 h3 h4 h5 f1 f2
        go_loopw [84] (fun t wr => ∃ i : Nat, k ≤ i ∧ i ≤ q ∧ TR wr g s i k m nm rw ∧ Gr g w wr) (fun t wr => s.size - posT g wr)
        case atStart => exact ⟨k, Nat.le_refl _, hq, (TT.out.drewN _).setPl _, (GG.out.drewN _).set 2 _⟩
        case round =>
          rename World => wt
          obtain ⟨i, il, iq, hT, hG⟩ := hrel
          have TU := Lib.hid hT
          have GU := Lib.hid hG
          have PU := Lib.hid hT.pos
          obtain ⟨h0, h1, h2, h3, h4, h5⟩ := hT.c
          have f1 := hT.f 1
          clear hT hG
          by_cases hi : i < q
          · exact absurd hi (by omega)
          · obtain rfl : i = q := by omega
            by_cases is : i < s.size
            · have kc : (i : Int) < (s.size : Int) := by omega
              have YW := EE.out
              obtain ⟨c, hc⟩ : ∃ c : Nat, s[i].toNat = c := ⟨_, rfl⟩
              rw [bt_lt is, hc] at YW
              have c0 : 0 ≤ (c : Int) := by omega
              have KC := Lib.hid (fun W => isOfWord_any (c : Int) c0 W)
              rw [YW] at KC
              clear YW c0
              go_wp2
              go_quiet ((go_at_call 56; exact Calls.quiet_of_same (KC.out _)))
              go_wp2
              go_quiet (fail)
              go_wp2
              go_ret
              exact ⟨rfl, (TU.out.drewN _).drewN _, (GU.out.drewN _).drewN _⟩
            · have kc : ¬ (i : Int) < (s.size : Int) := by omega
              have k2 : decide (i < s.size) = false := decide_eq_false is
              have k3 : decide ((i : Int) < (s.size : Int)) = false := decide_eq_false kc
              go_wp2
              go_quiet (fail)
              go_wp2
              go_quiet (fail)
              go_wp2
              go_ret
              exact ⟨rfl, (TU.out.drewN _).drewN _, (GU.out.drewN _).drewN _⟩
end Go.Proofs.YthkeoeobpdminaaDoor
