import Derived.Test.YthhacbelbkkcmaaXAJ
import Derived.Laws.AppendOwn
import Derived.Deep.RegionHeld3
namespace Go.Proofs.Ythhacbelbkkcmaa
open Go.RowKit
set_option linter.unusedVariables false
set_option linter.unusedSimpArgs false

/-- A reader in block g. -/
structure RD (w : World) (g : Nat) (s : ByteArray) (at_ : Nat) : Prop where
  t : w.cell? ⟨g, 0, none⟩ = some (.string s)
  a : w.cell? ⟨g, 1, none⟩ = some (.int .i64 at_)
  f : w.frozen? ⟨g, 1, none⟩ = false
  lt : g < w.heap.size
  sz : s.size ≤ 1048576
  le : at_ ≤ s.size
/-- At most the reader has turned. -/
def Gr (g : Nat) (w w' : World) : Prop := w.grownBy w' (some g)
theorem Gr.refl (g : Nat) (w : World) : Gr g w w := ⟨rfl, rfl, rfl, Nat.le_refl _, fun _ _ _ => rfl⟩
theorem Gr.trans {g : Nat} {a b c : World} (h : Gr g a b) (k : Gr g b c) : Gr g a c :=
  ⟨k.os.trans h.os, k.tape.trans h.tape, k.output.trans h.output, Nat.le_trans h.size k.size, fun i hi hn => (k.block i (Nat.lt_of_lt_of_le hi h.size) hn).trans (h.block i hi hn)⟩
theorem Gr.drew {g : Nat} {a b : World} (h : Gr g a b) : Gr g a b.drew := ⟨h.os, h.tape, h.output, h.size, h.block⟩
theorem Gr.set {g : Nat} {a b : World} (h : Gr g a b) (o : Nat) (v : Value) : Gr g a (b.setCell ⟨g, o, none⟩ v) := by
  refine h.trans ⟨rfl, rfl, rfl, by simp, fun i hi hn => ?_⟩
  have hp : ¬ g = i := fun e => hn (by rw [e])
  simp [World.setCell, Array.getElem?_modify, hp]
theorem RD.drew {w : World} {g : Nat} {s : ByteArray} {at_ : Nat} (h : RD w g s at_) : RD w.drew g s at_ := ⟨h.t, h.a, h.f, h.lt, h.sz, h.le⟩
theorem RD.drewN {w : World} {g : Nat} {s : ByteArray} {at_ : Nat} (h : RD w g s at_) (n : Nat) : RD (w.drewN n) g s at_ := ⟨h.t, h.a, h.f, h.lt, h.sz, h.le⟩
theorem Gr.drewN {g : Nat} {a b : World} (h : Gr g a b) (n : Nat) : Gr g a (b.drewN n) := ⟨h.os, h.tape, h.output, h.size, h.block⟩
theorem RD.set {w : World} {g : Nat} {s : ByteArray} {at_ : Nat} (h : RD w g s at_) (k : Nat) (hk : k ≤ s.size) : RD (w.setCell ⟨g, 1, none⟩ (.int .i64 k)) g s k :=
  ⟨by rw [World.cell?_setCell_other _ _ _ _ (by simp)]; exact h.t, World.cell?_setCell_same' _ _ _ (by rw [h.a]; rfl), by rw [World.frozen?_setCell]; exact h.f, by simpa using h.lt, h.sz, hk⟩

set_option maxHeartbeats 1000000 in
theorem sees_any (g : Nat) (s : ByteArray) (at_ : Nat) (c : Int) (c0 : 0 < c) (w : World) (h : RD w g s at_) :
    Calls Try.prog 61 #[.pointer (some ⟨g, 0, none⟩), .int .u8 c] w fun e w' => e = .returned (.bool (decide (at8 s at_ = c))) ∧ RD w' g s at_ ∧ Gr g w w' := by
  have HH := Lib.hid h
  obtain ⟨h1, h2, h3, h4, h5, h6⟩ := h
  by_cases hk : at_ < s.size
  · have E := at8_lt hk
    have kc : (at_ : Int) < (s.size : Int) := by omega
    have RR := Lib.hid (p := decide (at8 s at_ = c) = ((s[at_].toNat : Int) == c)) (by rw [E]; rfl)
    generalize decide (at8 s at_ = c) = B at *
    clear E
    go_enter Try.func61, Try.ntmps61
    go_wp2
    go_quiet (fail)
    all_goals
      go_wp2
      go_ret
      exact ⟨ret_b (by rw [RR.out]; first | done | rfl | simp), HH.out.drewN _, (Gr.refl g w).drewN _⟩
  · have kc : ¬ (at_ : Int) < (s.size : Int) := by omega
    have e : at_ = s.size := by omega
    have RR := Lib.hid (p := decide (at8 s at_ = c) = false) (by rw [at8_end hk]; exact decide_eq_false (by omega))
    generalize decide (at8 s at_ = c) = B at *
    have k2 : decide (at_ < s.size) = false := decide_eq_false hk
    have k3 : decide ((at_ : Int) < (s.size : Int)) = false := decide_eq_false kc
    clear e
    go_enter Try.func61, Try.ntmps61
    go_wp2
    go_quiet (fail)
    all_goals
      go_wp2
      go_ret
      exact ⟨ret_b (by rw [RR.out]), HH.out.drewN _, (Gr.refl g w).drewN _⟩

set_option maxHeartbeats 1000000 in
theorem pass_yes (g : Nat) (s : ByteArray) (at_ : Nat) (c : Int) (c0 : 0 < c) (w : World) (h : RD w g s at_) (hc : at8 s at_ = c) :
    Calls Try.prog 52 #[.pointer (some ⟨g, 0, none⟩), .int .u8 c] w fun e w' => e = .returned (.bool true) ∧ RD w' g s (at_ + 1) ∧ Gr g w w' := by
  have hk : at_ < s.size := Nat.lt_of_not_le fun h' => by rw [at8_end (by omega)] at hc; omega
  have K := Lib.hid (sees_any g s at_ c c0 w h)
  rw [decide_eq_true hc] at K
  have sz := h.sz
  have kw : IntKind.i64.wrap ((at_ : Int) + 1) = (at_ : Int) + 1 := by simp [IntKind.wrap, IntKind.bits, IntKind.signed]; omega
  clear h hc
  go_enter Try.func52, Try.ntmps52
  go_wp2_with (go_at_call 61; refine K.out.mono ?_; rintro e w1 ⟨rfl, hr, hg⟩; have HR := Lib.hid hr; have HG := Lib.hid hg; obtain ⟨h1, h2, h3, h4, h5, h6⟩ := hr; clear hg)
  go_ret
  exact ⟨rfl, HR.out.set (at_ + 1) (by omega), HG.out.set 1 _⟩
theorem pass_no (g : Nat) (s : ByteArray) (at_ : Nat) (c : Int) (c0 : 0 < c) (w : World) (h : RD w g s at_) (hc : at8 s at_ ≠ c) :
    Calls Try.prog 52 #[.pointer (some ⟨g, 0, none⟩), .int .u8 c] w fun e w' => e = .returned (.bool false) ∧ RD w' g s at_ ∧ Gr g w w' := by
  have K := Lib.hid (sees_any g s at_ c c0 w h)
  rw [decide_eq_false hc] at K
  clear h hc
  go_enter Try.func52, Try.ntmps52
  go_wp2_with (go_at_call 61; refine K.out.mono ?_; rintro e w1 ⟨rfl, hr, hg⟩; have HR := Lib.hid hr; have HG := Lib.hid hg; clear hr hg)
  go_ret
  exact ⟨rfl, HR.out, HG.out⟩

theorem RD.next {w : World} {g : Nat} {s : ByteArray} {at_ j q : Nat} (h : RD w g s (at_ + j)) (hk : at_ + j < s.size) : RD ((w.drewN q).setCell ⟨g, 1, none⟩ (.int .i64 ((at_ : Int) + j + 1))) g s (at_ + (j + 1)) := by
  have := (h.drewN q).set (at_ + (j + 1)) (by omega)
  rwa [show (((at_ + (j + 1) : Nat)) : Int) = (at_ : Int) + j + 1 by omega] at this
/-- Where the reader stands. -/
def posOf (g : Nat) (w : World) : Nat := match w.cell? ⟨g, 1, none⟩ with | some (.int _ z) => z.toNat | _ => 0
theorem RD.pos {w : World} {g : Nat} {s : ByteArray} {at_ : Nat} (h : RD w g s at_) : posOf g w = at_ := by unfold posOf; rw [h.a]; simp
theorem ret_ub {n : Int} {a b : Bool} (h : a = b) : Ending.returned (.tuple #[.int .u64 n, .bool a]) = .returned (.tuple #[.int .u64 n, .bool b]) := by rw [h]
/-- How digits ends. -/
def DigE (s : ByteArray) (at_ lim : Nat) (e : Ending) (k : Nat) : Prop :=
  ∃ (n : Nat) (wh : Bool), ND s at_ lim k n wh ∧ ((isD (at8 s k) ∧ at8 s at_ ≠ 48 ∧ e = .returned (.tuple #[.int .u64 0, .bool false])) ∨ ((at8 s at_ = 48 ∨ ¬ isD (at8 s k)) ∧ e = .returned (.tuple #[.int .u64 (n : Int), .bool wh])))

set_option maxRecDepth 100000 in
set_option maxHeartbeats 4000000 in
theorem digits_any (g : Nat) (s : ByteArray) (at_ lim : Nat) (l9 : 9 ≤ lim) (l64 : lim ≤ 9223372036854775808) (w : World) (h : RD w g s at_) :
    Calls Try.prog 51 #[.pointer (some ⟨g, 0, none⟩), .int .u64 lim] w fun e w' => ∃ k, DigE s at_ lim e k ∧ RD w' g s k ∧ Gr g w w' := by
  by_cases h0 : at8 s at_ = 48
  · have K := Lib.hid (pass_yes g s at_ 48 (by omega) w h h0)
    go_enter Try.func51, Try.ntmps51
    go_wp2_with (go_at_call 52; refine K.out.mono ?_; rintro e w1 ⟨rfl, hr, hg⟩; have HR := Lib.hid hr; have HG := Lib.hid hg; clear hr hg)
    go_ret2
    exact ⟨at_ + 1, ⟨0, true, .inl ⟨h0, rfl, rfl, rfl⟩, .inr ⟨.inl h0, rfl⟩⟩, HR.out, HG.out⟩
  · have K := Lib.hid (pass_no g s at_ 48 (by omega) w h h0)
    have sz := h.sz
    have le := h.le
    have H0 := Lib.hid h0
    clear h h0
    go_enter Try.func51, Try.ntmps51
    go_wp2_with (go_at_call 52; refine K.out.mono ?_; rintro e w1 ⟨rfl, hr, hg⟩; have HR := Lib.hid hr; have HG := Lib.hid hg; obtain ⟨h1, h2, h3, h4, h5, h6⟩ := hr; clear hg)
    clear h1 h2 h3 h4 h5 h6
    go_loopw [7] (fun t wr => ∃ (j n : Nat), at_ + j ≤ s.size ∧ t = .int .u64 n ∧ preD s at_ lim j = some n ∧ RD wr g s (at_ + j) ∧ Gr g w wr) (fun t wr => s.size - posOf g wr)
    case atStart => exact ⟨0, 0, le, rfl, rfl, HR.out, HG.out⟩
    case round =>
      obtain ⟨j, n, hj, rfl, hp, hr, hg⟩ := hrel
      have nle := preD_le l9 hp
      have HR2 := Lib.hid hr
      have HG2 := Lib.hid hg
      have HP := Lib.hid hp
      have PS := Lib.hid hr.pos
      obtain ⟨h1, h2, h3, h4, h5, h6⟩ := hr
      simp only [Int.natCast_add] at h2
      clear hp hg
      by_cases hk : at_ + j < s.size
      · have kc : (at_ : Int) + j < (s.size : Int) := by omega
        have kt : ((at_ : Int) + j).toNat = at_ + j := by omega
        have k0 : ¬ ((at_ : Int) + j) < 0 := by omega
        obtain ⟨c, hc⟩ : ∃ c : Nat, s[at_ + j].toNat = c := ⟨_, rfl⟩
        have c255 : c ≤ 255 := by have := s[at_ + j].toNat_lt; omega
        have E := Lib.hid (show at8 s (at_ + j) = c by rw [at8_lt hk, hc])
        by_cases c48 : (c : Int) < 48
        · have ND' := Lib.hid (show ¬ isD (at8 s (at_ + j)) by rw [E.out]; unfold isD; omega)
          have DSJ := Lib.hid (show DS s at_ lim j n from ⟨HP.out, by rw [preD_succ HP.out]; unfold stepD; rw [if_neg (fun k => ND'.out k.1)]⟩)
          go_wp2
          go_quiet (fail)
          go_wp2
          go_quiet (fail)
          go_wp2
          go_quiet (fail)
          go_wp2
          go_ret2
          exact ⟨at_ + j, ⟨n, decide (0 < j), .inr ⟨H0.out, j, DSJ.out, rfl, rfl⟩, .inr ⟨.inr ND'.out, ret_ub (by apply decide_eq_decide.2; omega)⟩⟩, by first | exact (HR2.out.drewN _).drewN _ | exact HR2.out.drewN _, by first | exact (HG2.out.drewN _).drewN _ | exact HG2.out.drewN _⟩
        · by_cases c57 : (57 : Int) < (c : Int)
          · have ND' := Lib.hid (show ¬ isD (at8 s (at_ + j)) by rw [E.out]; unfold isD; omega)
            have DSJ := Lib.hid (show DS s at_ lim j n from ⟨HP.out, by rw [preD_succ HP.out]; unfold stepD; rw [if_neg (fun k => ND'.out k.1)]⟩)
            go_wp2
            go_quiet (fail)
            go_wp2
            go_quiet (fail)
            go_wp2
            go_quiet (fail)
            go_wp2
            go_ret2
            exact ⟨at_ + j, ⟨n, decide (0 < j), .inr ⟨H0.out, j, DSJ.out, rfl, rfl⟩, .inr ⟨.inr ND'.out, ret_ub (by apply decide_eq_decide.2; omega)⟩⟩, by first | exact (HR2.out.drewN _).drewN _ | exact HR2.out.drewN _, by first | exact (HG2.out.drewN _).drewN _ | exact HG2.out.drewN _⟩
          · have ID := Lib.hid (show isD (at8 s (at_ + j)) by rw [E.out]; unfold isD; omega)
            have DG := Lib.hid (show ((dg (at8 s (at_ + j)) : Nat) : Int) = (c : Int) - 48 by rw [(dg_bd ID.out).2, E.out])
            have w1 : IntKind.u8.wrap ((c : Int) - 48) = (c : Int) - 48 := by simp [IntKind.wrap, IntKind.bits, IntKind.signed]; omega
            have w2 : IntKind.u64.wrap ((lim : Int) - ((c : Int) - 48)) = (lim : Int) - ((c : Int) - 48) := by rw [IntKind.wrap_u64]; omega
            have w6 : IntKind.u64.wrap ((c : Int) - 48) = (c : Int) - 48 := by rw [IntKind.wrap_u64]; omega
            by_cases ov : ((lim : Int) - ((c : Int) - 48)) / 10 < (n : Int)
            · have DSJ := Lib.hid (show DS s at_ lim j n from ⟨HP.out, by
                rw [preD_succ HP.out]; unfold stepD; rw [if_neg (fun k => by have := DG.out; have := k.2; omega)]⟩)
              go_wp2
              go_quiet (fail)
              go_wp2
              go_quiet (fail)
              go_wp2
              go_ret2
              exact ⟨at_ + j, ⟨n, decide (0 < j), .inr ⟨H0.out, j, DSJ.out, rfl, rfl⟩, .inl ⟨ID.out, H0.out, rfl⟩⟩, HR2.out.drewN _, HG2.out.drewN _⟩
            · have w3 : IntKind.u64.wrap (10 * (n : Int)) = 10 * (n : Int) := by rw [IntKind.wrap_u64]; omega
              have w4 : IntKind.u64.wrap (10 * (n : Int) + ((c : Int) - 48)) = 10 * (n : Int) + ((c : Int) - 48) := by rw [IntKind.wrap_u64]; omega
              have w5 : IntKind.i64.wrap ((at_ : Int) + j + 1) = (at_ : Int) + j + 1 := by simp [IntKind.wrap, IntKind.bits, IntKind.signed]; omega
              have NX := Lib.hid (show preD s at_ lim (j + 1) = some (10 * n + dg (at8 s (at_ + j))) by
                rw [preD_succ HP.out]; unfold stepD; rw [if_pos ⟨ID.out, by have := DG.out; omega⟩])
              go_wp2
              go_quiet (fail)
              go_wp2
              go_quiet (fail)
              go_wp2
              refine ⟨⟨j + 1, 10 * n + dg (at8 s (at_ + j)), by omega, by congr 1; have := DG.out; omega, NX.out, ?_, ?_⟩, ?_⟩
              · exact RD.next HR2.out hk
              · exact (HG2.out.drewN _).set 1 _
              · rw [PS.out, RD.pos (RD.next HR2.out hk)]
                omega
      · have kc : ¬ (at_ : Int) + j < (s.size : Int) := by omega
        have k2 : decide ((at_ : Int) + j < (s.size : Int)) = false := decide_eq_false kc
        have ND' := Lib.hid (show ¬ isD (at8 s (at_ + j)) by rw [at8_end hk]; unfold isD; omega)
        have DSJ := Lib.hid (show DS s at_ lim j n from ⟨HP.out, by rw [preD_succ HP.out]; unfold stepD; rw [if_neg (fun k => ND'.out k.1)]⟩)
        go_wp2
        go_quiet (fail)
        go_wp2
        go_quiet (fail)
        go_wp2
        go_ret2
        exact ⟨at_ + j, ⟨n, decide (0 < j), .inr ⟨H0.out, j, DSJ.out, rfl, rfl⟩, .inr ⟨.inr ND'.out, ret_ub (by apply decide_eq_decide.2; omega)⟩⟩, by first | exact (HR2.out.drewN _).drewN _ | exact HR2.out.drewN _, by first | exact (HG2.out.drewN _).drewN _ | exact HG2.out.drewN _⟩
end Go.Proofs.Ythhacbelbkkcmaa

namespace Go.Proofs.Ythhacbelbkkcmaa
open Go.RowKit
set_option linter.unusedVariables false
set_option linter.unusedSimpArgs false

/-- A number that was read, as the program tells it. -/
def Told (s : ByteArray) (k : Nat) (m : Int) (wh : Bool) (v : Int) (ok : Bool) : Prop := (ok = true ∧ wh = true ∧ v = m) ∨ (ok = false ∧ (wh = false ∨ isD (at8 s k)))
theorem dig_told {s : ByteArray} {at_ lim : Nat} {e : Ending} {k : Nat} (l9 : 9 ≤ lim) (h : DigE s at_ lim e k) : ∃ (v : Int) (ok : Bool), e = .returned (.tuple #[.int .u64 v, .bool ok]) ∧ RowKit.Hid (0 ≤ v ∧ v ≤ lim ∧ ∃ (n : Nat) (wh : Bool), ND s at_ lim k n wh ∧ Told s k n wh v ok) := by
  obtain ⟨n, wh, hn, h⟩ := h
  have nl : n ≤ lim := by
    rcases hn with ⟨_, _, h, _⟩ | ⟨_, j, h, _⟩
    · omega
    · exact preD_le l9 h.1
  rcases h with ⟨h1, h2, rfl⟩ | ⟨h1, rfl⟩
  · exact ⟨0, false, rfl, by omega, by omega, n, wh, hn, .inr ⟨rfl, .inr h1⟩⟩
  · refine ⟨n, wh, rfl, by omega, by omega, n, wh, hn, ?_⟩
    cases wh with
    | true => exact .inl ⟨rfl, rfl, rfl⟩
    | false => exact .inr ⟨rfl, .inl rfl⟩
/-- A signed number from a place on. -/
def SN (s : ByteArray) (at_ k : Nat) (m : Int) (wh : Bool) : Prop :=
  (at8 s at_ ≠ 45 ∧ ∃ n, ND s at_ 9223372036854775807 k n wh ∧ m = n) ∨
  (at8 s at_ = 45 ∧ at8 s (at_ + 1) = 48 ∧ k = at_ + 1 ∧ wh = false ∧ m = 0) ∨
  (at8 s at_ = 45 ∧ at8 s (at_ + 1) ≠ 48 ∧ ∃ n, ND s (at_ + 1) 9223372036854775808 k n wh ∧ m = -(n : Int))
theorem sn_one {s : ByteArray} {at_ k k' : Nat} {m m' : Int} {wh wh' : Bool} (h : SN s at_ k m wh) (h' : SN s at_ k' m' wh') : k = k' ∧ m = m' ∧ wh = wh' := by
  rcases h with ⟨a, n, b, c⟩ | ⟨a, a1, b, c, d⟩ | ⟨a, a1, n, b, c⟩ <;> rcases h' with ⟨a', n', b', c'⟩ | ⟨a', a1', b', c', d'⟩ | ⟨a', a1', n', b', c'⟩ <;> first
    | exact absurd a' a
    | exact absurd a a'
    | exact absurd a1' a1
    | exact absurd a1 a1'
    | exact ⟨by omega, by omega, by rw [c, c']⟩
    | (obtain ⟨x, y, z⟩ := nd_one b b'; exact ⟨x, by omega, z⟩)
theorem neg_wrap {v : Int} (h0 : 0 ≤ v) (h1 : v ≤ 9223372036854775808) : IntKind.i64.wrap (IntKind.u64.wrap (-v)) = -v := by
  rw [IntKind.wrap_u64, IntKind.wrap_i64]; omega
theorem pos_wrap {v : Int} (h0 : 0 ≤ v) (h1 : v ≤ 9223372036854775807) : IntKind.i64.wrap v = v := by
  rw [IntKind.wrap_i64]; omega

set_option maxHeartbeats 2000000 in
theorem amount_any (g : Nat) (s : ByteArray) (at_ : Nat) (w : World) (h : RD w g s at_) :
    Calls Try.prog 54 #[.pointer (some ⟨g, 0, none⟩)] w fun e w' => ∃ (k : Nat) (v : Int) (ok : Bool), e = .returned (.tuple #[.int .i64 v, .bool ok]) ∧ RowKit.Hid (∃ m wh, SN s at_ k m wh ∧ Told s k m wh v ok) ∧ RD w' g s k ∧ Gr g w w' := by
  by_cases h45 : at8 s at_ = 45
  · have K0 := Lib.hid (pass_yes g s at_ 45 (by omega) w h h45)
    have H45 := Lib.hid h45
    by_cases h48 : at8 s (at_ + 1) = 48
    · have K1 := Lib.hid (fun W (h : RD W g s (at_ + 1)) => sees_any g s (at_ + 1) 48 (by omega) W h)
      rw [decide_eq_true h48] at K1
      have H48 := Lib.hid h48
      clear h h45 h48
      go_enter Try.func54, Try.ntmps54
      go_wp2_with (first
        | (go_at_call 52; refine K0.out.mono ?_; rintro e w1 ⟨rfl, hr, hg⟩; have HR := Lib.hid hr; have HG := Lib.hid hg; clear hr hg)
        | (go_at_call 61; refine (K1.out _ HR.out).mono ?_; rintro e w2 ⟨rfl, hr, hg⟩; have HR2 := Lib.hid hr; have HG2 := Lib.hid (HG.out.trans hg); clear hr hg))
      go_ret2
      exact ⟨at_ + 1, 0, false, rfl, ⟨0, false, .inr (.inl ⟨H45.out, H48.out, rfl, rfl, rfl⟩), .inr ⟨rfl, .inl rfl⟩⟩, HR2.out, HG2.out⟩
    · have K1 := Lib.hid (fun W (h : RD W g s (at_ + 1)) => sees_any g s (at_ + 1) 48 (by omega) W h)
      rw [decide_eq_false h48] at K1
      have K2 := Lib.hid (fun W (h : RD W g s (at_ + 1)) => digits_any g s (at_ + 1) 9223372036854775808 (by omega) (by omega) W h)
      simp only [Int.cast_ofNat_Int] at K2
      have H48 := Lib.hid h48
      clear h h45 h48
      go_enter Try.func54, Try.ntmps54
      go_wp2_with (first
        | (go_at_call 52; refine K0.out.mono ?_; rintro e w1 ⟨rfl, hr, hg⟩; have HR := Lib.hid hr; have HG := Lib.hid hg; clear hr hg)
        | (go_at_call 61; refine (K1.out _ HR.out).mono ?_; rintro e w2 ⟨rfl, hr, hg⟩; have HR2 := Lib.hid hr; have HG2 := Lib.hid (HG.out.trans hg); clear hr hg)
        | (go_at_call 51; refine (K2.out _ HR2.out).mono ?_; rintro e w3 ⟨k, hd, hr, hg⟩; obtain ⟨v, ok, rfl, HT⟩ := dig_told (by omega) hd; have HR3 := Lib.hid hr; have HG3 := Lib.hid (HG2.out.trans hg); have nw := neg_wrap HT.out.1 HT.out.2.1; clear hr hg hd))
      go_ret2
      obtain ⟨_, _, n, wh, hn, ht⟩ := HT.out
      refine ⟨k, -v, ok, by first | rfl | (rw [nw]), ⟨-(n : Int), wh, .inr (.inr ⟨H45.out, H48.out, n, hn, rfl⟩), ?_⟩, HR3.out, HG3.out⟩
      rcases ht with ⟨a, b, c⟩ | c
      · exact .inl ⟨a, b, by omega⟩
      · exact .inr c
  · have K0 := Lib.hid (pass_no g s at_ 45 (by omega) w h h45)
    have H45 := Lib.hid h45
    have K2 := Lib.hid (fun W (h : RD W g s at_) => digits_any g s at_ 9223372036854775807 (by omega) (by omega) W h)
    simp only [Int.cast_ofNat_Int] at K2
    clear h h45
    go_enter Try.func54, Try.ntmps54
    go_wp2_with (first
      | (go_at_call 52; refine K0.out.mono ?_; rintro e w1 ⟨rfl, hr, hg⟩; have HR := Lib.hid hr; have HG := Lib.hid hg; clear hr hg)
      | (go_at_call 51; refine (K2.out _ HR.out).mono ?_; rintro e w3 ⟨k, hd, hr, hg⟩; obtain ⟨v, ok, rfl, HT⟩ := dig_told (by omega) hd; have HR3 := Lib.hid hr; have HG3 := Lib.hid (HG.out.trans hg); have nw := pos_wrap HT.out.1 HT.out.2.1; clear hr hg hd))
    go_ret2
    obtain ⟨_, _, n, wh, hn, ht⟩ := HT.out
    exact ⟨k, v, ok, by first | rfl | (rw [nw]), ⟨n, wh, .inl ⟨H45.out, n, hn, rfl⟩, ht⟩, HR3.out, HG3.out⟩

/-- Capitals from a place on, three at most. -/
def CurS (s : ByteArray) (at_ k : Nat) (wh : Bool) : Prop := ∃ j, j ≤ 3 ∧ k = at_ + j ∧ (∀ i, i < j → capB (at8 s (at_ + i)) = true) ∧ ((wh = true ∧ j = 3) ∨ (wh = false ∧ j < 3 ∧ capB (at8 s (at_ + j)) = false))
theorem cur_one {s : ByteArray} {at_ k k' : Nat} {wh wh' : Bool} (h : CurS s at_ k wh) (h' : CurS s at_ k' wh') : k = k' ∧ wh = wh' := by
  obtain ⟨j, h1, h2, h3, h4⟩ := h
  obtain ⟨j', h1', h2', h3', h4'⟩ := h'
  have e : j = j' := by
    rcases Nat.lt_trichotomy j j' with q | q | q
    · rcases h4 with ⟨_, r⟩ | ⟨_, _, r⟩
      · omega
      · have := h3' j q; rw [r] at this; cases this
    · exact q
    · rcases h4' with ⟨_, r⟩ | ⟨_, _, r⟩
      · omega
      · have := h3 j' q; rw [r] at this; cases this
  subst e
  refine ⟨by omega, ?_⟩
  rcases h4 with ⟨a, b⟩ | ⟨a, b, _⟩ <;> rcases h4' with ⟨a', b'⟩ | ⟨a', b', _⟩ <;> first | (exfalso; omega) | (rw [a, a'])
theorem cutS (s : ByteArray) (i j : Nat) (h : i ≤ j) (hj : j ≤ s.size) (hs : s.size ≤ 1048576) (W : World) : (Instr.slice 9 (.string s) (some (.int .i64 (i : Int))) (some (.int .i64 (j : Int))) none).run Try.prog W = .ok (.string (s.extract i j)) W := by
  rw [run_slice_string W 9 s .i64 .i64 i j (by kernel_rfl) (by omega) (by omega) (by omega)]
  simp

set_option maxRecDepth 100000 in
set_option maxHeartbeats 4000000 in
theorem currency_any (g : Nat) (s : ByteArray) (at_ : Nat) (w : World) (h : RD w g s at_) :
    Calls Try.prog 53 #[.pointer (some ⟨g, 0, none⟩)] w fun e w' => ∃ (k : Nat) (c : ByteArray) (ok : Bool), e = .returned (.tuple #[.string c, .bool ok]) ∧ RowKit.Hid (CurS s at_ k ok ∧ (ok = true → c = s.extract at_ (at_ + 3))) ∧ RD w' g s k ∧ Gr g w w' := by
  have HR := Lib.hid h
  have sz := h.sz
  have le := h.le
  have aw : IntKind.i64.wrap ((at_ : Int) + 3) = (at_ : Int) + 3 := by simp [IntKind.wrap, IntKind.bits, IntKind.signed]; omega
  obtain ⟨h1, h2, h3, h4, h5, h6⟩ := h
  go_enter Try.func53, Try.ntmps53
  go_wp2
  clear h1 h2 h3 h4 h5 h6
  go_loopw [9] (fun t wr => ∃ (j : Nat), j ≤ 3 ∧ at_ + j ≤ s.size ∧ RowKit.Hid (∀ i, i < j → capB (at8 s (at_ + i)) = true) ∧ RD wr g s (at_ + j) ∧ Gr g w wr) (fun t wr => at_ + 3 - posOf g wr)
  case atStart => exact ⟨0, by omega, le, fun i hi => absurd hi (by omega), HR.out, Gr.refl _ _⟩
  case round =>
    obtain ⟨j, j3, hj, hC, hr, hg⟩ := hrel
    have HR2 := Lib.hid hr
    have HG2 := Lib.hid hg
    have PS := Lib.hid hr.pos
    obtain ⟨h1, h2, h3, h4, h5, h6⟩ := hr
    simp only [Int.natCast_add] at h2
    clear hg
    by_cases jl : j < 3
    · have jc : (at_ : Int) + j < (at_ : Int) + 3 := by omega
      have jc' : (j : Int) < 3 := by omega
      by_cases hk : at_ + j < s.size
      · have kc : (((at_ : Int) + j) == (s.size : Int)) = false := by simp; omega
        have kc2 : decide ((at_ : Int) + j = (s.size : Int)) = false := decide_eq_false (by omega)
        have kt : ((at_ : Int) + j).toNat = at_ + j := by omega
        have k0 : ¬ ((at_ : Int) + j) < 0 := by omega
        have kl : (at_ : Int) + j < (s.size : Int) := by omega
        obtain ⟨c, hc⟩ : ∃ c : Nat, s[at_ + j].toNat = c := ⟨_, rfl⟩
        have E := Lib.hid (show at8 s (at_ + j) = c by rw [at8_lt hk, hc])
        have KC := Lib.hid (fun W => isCapital_any (c : Int) W)
        have w5 : IntKind.i64.wrap ((at_ : Int) + j + 1) = (at_ : Int) + j + 1 := by simp [IntKind.wrap, IntKind.bits, IntKind.signed]; omega
        cases hcap : capB (c : Int) with
        | true =>
          rw [hcap] at KC
          have NX := Lib.hid (show ∀ i, i < j + 1 → capB (at8 s (at_ + i)) = true from fun i hi => by
            rcases (show i < j ∨ i = j by omega) with q | q
            · exact hC.out i q
            · rw [q, E.out]; exact hcap)
          go_wp2
          go_quiet (first | (go_at_call 62; refine Calls.quiet_of_same (KC.out _)))
          go_wp2
          refine ⟨⟨j + 1, by omega, by omega, NX.out, RD.next HR2.out hk, (HG2.out.drewN _).set 1 _⟩, ?_⟩
          rw [PS.out, RD.pos (RD.next HR2.out hk)]
          omega
        | false =>
          rw [hcap] at KC
          have CF := Lib.hid (show capB (at8 s (at_ + j)) = false by rw [E.out]; exact hcap)
          go_wp2
          go_quiet (first | (go_at_call 62; refine Calls.quiet_of_same (KC.out _)))
          go_wp2
          go_ret2
          exact ⟨at_ + j, _, false, rfl, ⟨⟨j, by omega, rfl, hC.out, .inr ⟨rfl, jl, CF.out⟩⟩, fun h => by cases h⟩, HR2.out.drewN _, HG2.out.drewN _⟩
      · have kc : (((at_ : Int) + j) == (s.size : Int)) = true := by simp; omega
        have kc2 : (at_ : Int) + j = (s.size : Int) := by omega
        have CF := Lib.hid (show capB (at8 s (at_ + j)) = false by rw [at8_end hk]; decide)
        clear kc2
        go_wp2
        go_quiet (fail)
        go_wp2
        go_ret2
        exact ⟨at_ + j, _, false, rfl, ⟨⟨j, by omega, rfl, hC.out, .inr ⟨rfl, jl, CF.out⟩⟩, fun h => by cases h⟩, HR2.out.drewN _, HG2.out.drewN _⟩
    · obtain rfl : j = 3 := by omega
      have cut := fun W => cutS s at_ (at_ + 3) (by omega) hj sz W
      simp only [Int.natCast_add, Int.cast_ofNat_Int] at cut h2
      go_wp2
      go_quiet (fail)
      go_wp2
      go_ret2
      exact ⟨at_ + 3, _, true, rfl, ⟨⟨3, by omega, rfl, hC.out, .inl ⟨rfl, rfl⟩⟩, fun _ => rfl⟩, HR2.out.drewN _, HG2.out.drewN _⟩
end Go.Proofs.Ythhacbelbkkcmaa
