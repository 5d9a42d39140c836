/-
  WALKS: the reader's sees, pass, digits.
-/
import Derived.Test.YtmdgfcldohmjdaaDoorPlainParse
import Derived.Laws.AppendOwn
import Derived.Deep.RegionHeld3
namespace Go.Proofs.YtmdgfcldohmjdaaDoor
open Go.RowKit
set_option linter.unusedVariables false
set_option linter.unusedSimpArgs false

/-- A reader in block g. -/
structure RD (w : World) (g : Nat) (s : ByteArray) (at_ : Nat) : Prop where
  t : w.cell? ⟨g, 0, none⟩ = some (.string s)
  a : w.cell? ⟨g, 1, none⟩ = some (.int .i64 at_)
  f : w.frozen? ⟨g, 1, none⟩ = false
  lt : g < w.heap.size
  sz : s.size ≤ 1048576
  le : at_ ≤ s.size
/-- At most the reader has turned. -/
def Gr (g : Nat) (w w' : World) : Prop := w.grownBy w' (some g)
theorem Gr.refl (g : Nat) (w : World) : Gr g w w := ⟨rfl, rfl, rfl, Nat.le_refl _, fun _ _ _ => rfl⟩
theorem Gr.trans {g : Nat} {a b c : World} (h : Gr g a b) (k : Gr g b c) : Gr g a c :=
  ⟨k.os.trans h.os, k.tape.trans h.tape, k.output.trans h.output, Nat.le_trans h.size k.size, fun i hi hn => (k.block i (Nat.lt_of_lt_of_le hi h.size) hn).trans (h.block i hi hn)⟩
theorem Gr.drew {g : Nat} {a b : World} (h : Gr g a b) : Gr g a b.drew := ⟨h.os, h.tape, h.output, h.size, h.block⟩
theorem Gr.set {g : Nat} {a b : World} (h : Gr g a b) (o : Nat) (v : Value) : Gr g a (b.setCell ⟨g, o, none⟩ v) := by
  refine h.trans ⟨rfl, rfl, rfl, by simp, fun i hi hn => ?_⟩
  have hp : ¬ g = i := fun e => hn (by rw [e])
  simp [World.setCell, Array.getElem?_modify, hp]
theorem RD.drew {w : World} {g : Nat} {s : ByteArray} {at_ : Nat} (h : RD w g s at_) : RD w.drew g s at_ := ⟨h.t, h.a, h.f, h.lt, h.sz, h.le⟩
theorem RD.drewN {w : World} {g : Nat} {s : ByteArray} {at_ : Nat} (h : RD w g s at_) (n : Nat) : RD (w.drewN n) g s at_ := ⟨h.t, h.a, h.f, h.lt, h.sz, h.le⟩
theorem Gr.drewN {g : Nat} {a b : World} (h : Gr g a b) (n : Nat) : Gr g a (b.drewN n) := ⟨h.os, h.tape, h.output, h.size, h.block⟩
theorem RD.set {w : World} {g : Nat} {s : ByteArray} {at_ : Nat} (h : RD w g s at_) (k : Nat) (hk : k ≤ s.size) : RD (w.setCell ⟨g, 1, none⟩ (.int .i64 k)) g s k :=
  ⟨by rw [World.cell?_setCell_other _ _ _ _ (by simp)]; exact h.t, World.cell?_setCell_same' _ _ _ (by rw [h.a]; rfl), by rw [World.frozen?_setCell]; exact h.f, by simpa using h.lt, h.sz, hk⟩

set_option maxHeartbeats 1000000 in
theorem sees_any (g : Nat) (s : ByteArray) (at_ : Nat) (c : Int) (c0 : 0 < c) (w : World) (h : RD w g s at_) :
    Calls Tryd.prog 48 #[.pointer (some ⟨g, 0, none⟩), .int .u8 c] w fun e w' => e = .returned (.bool (decide (at8 s at_ = c))) ∧ RD w' g s at_ ∧ Gr g w w' := by
  have HH := Lib.hid h
  obtain ⟨h1, h2, h3, h4, h5, h6⟩ := h
  by_cases hk : at_ < s.size
  · have E := at8_lt hk
    have kc : (at_ : Int) < (s.size : Int) := by omega
    have RR := Lib.hid (p := decide (at8 s at_ = c) = ((s[at_].toNat : Int) == c)) (by rw [E]; rfl)
    generalize decide (at8 s at_ = c) = B at *
    clear E
    go_enter Tryd.func48, Tryd.ntmps48
    go_wp2
    go_quiet (fail)
    all_goals
      go_wp2
      go_ret
      exact ⟨ret_b (by rw [RR.out]; first | done | rfl | simp), HH.out.drewN _, (Gr.refl g w).drewN _⟩
  · have kc : ¬ (at_ : Int) < (s.size : Int) := by omega
    have e : at_ = s.size := by omega
    have RR := Lib.hid (p := decide (at8 s at_ = c) = false) (by rw [at8_end hk]; exact decide_eq_false (by omega))
    generalize decide (at8 s at_ = c) = B at *
    have k2 : decide (at_ < s.size) = false := decide_eq_false hk
    have k3 : decide ((at_ : Int) < (s.size : Int)) = false := decide_eq_false kc
    clear e
    go_enter Tryd.func48, Tryd.ntmps48
    go_wp2
    go_quiet (fail)
    all_goals
      go_wp2
      go_ret
      exact ⟨ret_b (by rw [RR.out]), HH.out.drewN _, (Gr.refl g w).drewN _⟩

set_option maxHeartbeats 1000000 in
theorem pass_yes (g : Nat) (s : ByteArray) (at_ : Nat) (c : Int) (c0 : 0 < c) (w : World) (h : RD w g s at_) (hc : at8 s at_ = c) :
    Calls Tryd.prog 38 #[.pointer (some ⟨g, 0, none⟩), .int .u8 c] w fun e w' => e = .returned (.bool true) ∧ RD w' g s (at_ + 1) ∧ Gr g w w' := by
  have hk : at_ < s.size := Nat.lt_of_not_le fun h' => by rw [at8_end (by omega)] at hc; omega
  have K := Lib.hid (sees_any g s at_ c c0 w h)
  rw [decide_eq_true hc] at K
  have sz := h.sz
  have kw : IntKind.i64.wrap ((at_ : Int) + 1) = (at_ : Int) + 1 := by simp [IntKind.wrap, IntKind.bits, IntKind.signed]; omega
  clear h hc
  go_enter Tryd.func38, Tryd.ntmps38
  go_wp2_with (go_at_call 48; refine K.out.mono ?_; rintro e w1 ⟨rfl, hr, hg⟩; have HR := Lib.hid hr; have HG := Lib.hid hg; obtain ⟨h1, h2, h3, h4, h5, h6⟩ := hr; clear hg)
  go_ret
  exact ⟨rfl, HR.out.set (at_ + 1) (by omega), HG.out.set 1 _⟩
theorem pass_no (g : Nat) (s : ByteArray) (at_ : Nat) (c : Int) (c0 : 0 < c) (w : World) (h : RD w g s at_) (hc : at8 s at_ ≠ c) :
    Calls Tryd.prog 38 #[.pointer (some ⟨g, 0, none⟩), .int .u8 c] w fun e w' => e = .returned (.bool false) ∧ RD w' g s at_ ∧ Gr g w w' := by
  have K := Lib.hid (sees_any g s at_ c c0 w h)
  rw [decide_eq_false hc] at K
  clear h hc
  go_enter Tryd.func38, Tryd.ntmps38
  go_wp2_with (go_at_call 48; refine K.out.mono ?_; rintro e w1 ⟨rfl, hr, hg⟩; have HR := Lib.hid hr; have HG := Lib.hid hg; clear hr hg)
  go_ret
  exact ⟨rfl, HR.out, HG.out⟩

theorem RD.next {w : World} {g : Nat} {s : ByteArray} {at_ j q : Nat} (h : RD w g s (at_ + j)) (hk : at_ + j < s.size) : RD ((w.drewN q).setCell ⟨g, 1, none⟩ (.int .i64 ((at_ : Int) + j + 1))) g s (at_ + (j + 1)) := by
  have := (h.drewN q).set (at_ + (j + 1)) (by omega)
  rwa [show (((at_ + (j + 1) : Nat)) : Int) = (at_ : Int) + j + 1 by omega] at this
/-- Where the reader stands. -/
def posOf (g : Nat) (w : World) : Nat := match w.cell? ⟨g, 1, none⟩ with | some (.int _ z) => z.toNat | _ => 0
theorem RD.pos {w : World} {g : Nat} {s : ByteArray} {at_ : Nat} (h : RD w g s at_) : posOf g w = at_ := by unfold posOf; rw [h.a]; simp
theorem ret_ub {n : Int} {a b : Bool} (h : a = b) : Ending.returned (.tuple #[.int .u64 n, .bool a]) = .returned (.tuple #[.int .u64 n, .bool b]) := by rw [h]
/-- How digits ends. -/
def DigE (s : ByteArray) (at_ lim : Nat) (e : Ending) (k : Nat) : Prop :=
  ∃ (n : Nat) (wh : Bool), ND s at_ lim k n wh ∧ ((isD (at8 s k) ∧ at8 s at_ ≠ 48 ∧ e = .returned (.tuple #[.int .u64 0, .bool false])) ∨ ((at8 s at_ = 48 ∨ ¬ isD (at8 s k)) ∧ e = .returned (.tuple #[.int .u64 (n : Int), .bool wh])))

set_option maxRecDepth 100000 in
set_option maxHeartbeats 4000000 in
theorem digits_any (g : Nat) (s : ByteArray) (at_ lim : Nat) (l9 : 9 ≤ lim) (l64 : lim ≤ 9223372036854775808) (w : World) (h : RD w g s at_) :
    Calls Tryd.prog 37 #[.pointer (some ⟨g, 0, none⟩), .int .u64 lim] w fun e w' => ∃ k, DigE s at_ lim e k ∧ RD w' g s k ∧ Gr g w w' := by
  by_cases h0 : at8 s at_ = 48
  · have K := Lib.hid (pass_yes g s at_ 48 (by omega) w h h0)
    go_enter Tryd.func37, Tryd.ntmps37
    go_wp2_with (go_at_call 38; refine K.out.mono ?_; rintro e w1 ⟨rfl, hr, hg⟩; have HR := Lib.hid hr; have HG := Lib.hid hg; clear hr hg)
    go_ret2
    exact ⟨at_ + 1, ⟨0, true, .inl ⟨h0, rfl, rfl, rfl⟩, .inr ⟨.inl h0, rfl⟩⟩, HR.out, HG.out⟩
  · have K := Lib.hid (pass_no g s at_ 48 (by omega) w h h0)
    have sz := h.sz
    have le := h.le
    have H0 := Lib.hid h0
    clear h h0
    go_enter Tryd.func37, Tryd.ntmps37
    go_wp2_with (go_at_call 38; refine K.out.mono ?_; rintro e w1 ⟨rfl, hr, hg⟩; have HR := Lib.hid hr; have HG := Lib.hid hg; obtain ⟨h1, h2, h3, h4, h5, h6⟩ := hr; clear hg)
    clear h1 h2 h3 h4 h5 h6
    go_loopw [7] (fun t wr => ∃ (j n : Nat), at_ + j ≤ s.size ∧ t = .int .u64 n ∧ preD s at_ lim j = some n ∧ RD wr g s (at_ + j) ∧ Gr g w wr) (fun t wr => s.size - posOf g wr)
    case atStart => exact ⟨0, 0, le, rfl, rfl, HR.out, HG.out⟩
    case round =>
      obtain ⟨j, n, hj, rfl, hp, hr, hg⟩ := hrel
      have nle := preD_le l9 hp
      have HR2 := Lib.hid hr
      have HG2 := Lib.hid hg
      have HP := Lib.hid hp
      have PS := Lib.hid hr.pos
      obtain ⟨h1, h2, h3, h4, h5, h6⟩ := hr
      simp only [Int.natCast_add] at h2
      clear hp hg
      by_cases hk : at_ + j < s.size
      · have kc : (at_ : Int) + j < (s.size : Int) := by omega
        have kt : ((at_ : Int) + j).toNat = at_ + j := by omega
        have k0 : ¬ ((at_ : Int) + j) < 0 := by omega
        obtain ⟨c, hc⟩ : ∃ c : Nat, s[at_ + j].toNat = c := ⟨_, rfl⟩
        have c255 : c ≤ 255 := by have := s[at_ + j].toNat_lt; omega
        have E := Lib.hid (show at8 s (at_ + j) = c by rw [at8_lt hk, hc])
        by_cases c48 : (c : Int) < 48
        · have ND' := Lib.hid (show ¬ isD (at8 s (at_ + j)) by rw [E.out]; unfold isD; omega)
          have DSJ := Lib.hid (show DS s at_ lim j n from ⟨HP.out, by rw [preD_succ HP.out]; unfold stepD; rw [if_neg (fun k => ND'.out k.1)]⟩)
          go_wp2
          go_quiet (fail)
          go_wp2
          go_quiet (fail)
          go_wp2
          go_quiet (fail)
          go_wp2
          go_ret2
          exact ⟨at_ + j, ⟨n, decide (0 < j), .inr ⟨H0.out, j, DSJ.out, rfl, rfl⟩, .inr ⟨.inr ND'.out, ret_ub (by apply decide_eq_decide.2; omega)⟩⟩, by first | exact (HR2.out.drewN _).drewN _ | exact HR2.out.drewN _, by first | exact (HG2.out.drewN _).drewN _ | exact HG2.out.drewN _⟩
        · by_cases c57 : (57 : Int) < (c : Int)
          · have ND' := Lib.hid (show ¬ isD (at8 s (at_ + j)) by rw [E.out]; unfold isD; omega)
            have DSJ := Lib.hid (show DS s at_ lim j n from ⟨HP.out, by rw [preD_succ HP.out]; unfold stepD; rw [if_neg (fun k => ND'.out k.1)]⟩)
            go_wp2
            go_quiet (fail)
            go_wp2
            go_quiet (fail)
            go_wp2
            go_quiet (fail)
            go_wp2
            go_ret2
            exact ⟨at_ + j, ⟨n, decide (0 < j), .inr ⟨H0.out, j, DSJ.out, rfl, rfl⟩, .inr ⟨.inr ND'.out, ret_ub (by apply decide_eq_decide.2; omega)⟩⟩, by first | exact (HR2.out.drewN _).drewN _ | exact HR2.out.drewN _, by first | exact (HG2.out.drewN _).drewN _ | exact HG2.out.drewN _⟩
          · have ID := Lib.hid (show isD (at8 s (at_ + j)) by rw [E.out]; unfold isD; omega)
            have DG := Lib.hid (show ((dg (at8 s (at_ + j)) : Nat) : Int) = (c : Int) - 48 by rw [(dg_bd ID.out).2, E.out])
            have w1 : IntKind.u8.wrap ((c : Int) - 48) = (c : Int) - 48 := by simp [IntKind.wrap, IntKind.bits, IntKind.signed]; omega
            have w2 : IntKind.u64.wrap ((lim : Int) - ((c : Int) - 48)) = (lim : Int) - ((c : Int) - 48) := by rw [IntKind.wrap_u64]; omega
            have w6 : IntKind.u64.wrap ((c : Int) - 48) = (c : Int) - 48 := by rw [IntKind.wrap_u64]; omega
            by_cases ov : ((lim : Int) - ((c : Int) - 48)) / 10 < (n : Int)
            · have DSJ := Lib.hid (show DS s at_ lim j n from ⟨HP.out, by
                rw [preD_succ HP.out]; unfold stepD; rw [if_neg (fun k => by have := DG.out; have := k.2; omega)]⟩)
              go_wp2
              go_quiet (fail)
              go_wp2
              go_quiet (fail)
              go_wp2
              go_ret2
              exact ⟨at_ + j, ⟨n, decide (0 < j), .inr ⟨H0.out, j, DSJ.out, rfl, rfl⟩, .inl ⟨ID.out, H0.out, rfl⟩⟩, HR2.out.drewN _, HG2.out.drewN _⟩
            · have w3 : IntKind.u64.wrap (10 * (n : Int)) = 10 * (n : Int) := by rw [IntKind.wrap_u64]; omega
              have w4 : IntKind.u64.wrap (10 * (n : Int) + ((c : Int) - 48)) = 10 * (n : Int) + ((c : Int) - 48) := by rw [IntKind.wrap_u64]; omega
              have w5 : IntKind.i64.wrap ((at_ : Int) + j + 1) = (at_ : Int) + j + 1 := by simp [IntKind.wrap, IntKind.bits, IntKind.signed]; omega
              have NX := Lib.hid (show preD s at_ lim (j + 1) = some (10 * n + dg (at8 s (at_ + j))) by
                rw [preD_succ HP.out]; unfold stepD; rw [if_pos ⟨ID.out, by have := DG.out; omega⟩])
              go_wp2
              go_quiet (fail)
              go_wp2
              go_quiet (fail)
              go_wp2
              refine ⟨⟨j + 1, 10 * n + dg (at8 s (at_ + j)), by omega, by congr 1; have := DG.out; omega, NX.out, ?_, ?_⟩, ?_⟩
              · exact RD.next HR2.out hk
              · exact (HG2.out.drewN _).set 1 _
              · rw [PS.out, RD.pos (RD.next HR2.out hk)]
                omega
      · have kc : ¬ (at_ : Int) + j < (s.size : Int) := by omega
        have k2 : decide ((at_ : Int) + j < (s.size : Int)) = false := decide_eq_false kc
        have ND' := Lib.hid (show ¬ isD (at8 s (at_ + j)) by rw [at8_end hk]; unfold isD; omega)
        have DSJ := Lib.hid (show DS s at_ lim j n from ⟨HP.out, by rw [preD_succ HP.out]; unfold stepD; rw [if_neg (fun k => ND'.out k.1)]⟩)
        go_wp2
        go_quiet (fail)
        go_wp2
        go_quiet (fail)
        go_wp2
        go_ret2
        exact ⟨at_ + j, ⟨n, decide (0 < j), .inr ⟨H0.out, j, DSJ.out, rfl, rfl⟩, .inr ⟨.inr ND'.out, ret_ub (by apply decide_eq_decide.2; omega)⟩⟩, by first | exact (HR2.out.drewN _).drewN _ | exact HR2.out.drewN _, by first | exact (HG2.out.drewN _).drewN _ | exact HG2.out.drewN _⟩
end Go.Proofs.YtmdgfcldohmjdaaDoor
