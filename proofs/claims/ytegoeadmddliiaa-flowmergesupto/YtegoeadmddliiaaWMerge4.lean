/-
  WALKS: flow.Merge.
-/
import Derived.Test.YtegoeadmddliiaaWMerge3
namespace Go.Proofs.Ytegoeadmddliiaa
open Go.RowKit
set_option linter.unusedVariables false
set_option linter.unusedSimpArgs false

theorem srtB_srt {l : List Fl} (h : srtB l = true) : Srt l := srt_of fun i hi => (of_decide_eq_true h) i (by omega) hi
/-- What Merge answers for lists that are ordered by day. -/
structure MgOf (Ls : List (List Fl)) (T : List Fl) : Prop where
  srt : Srt T
  day : ∀ D, onDay D T = Ls.flatMap (onDay D)
  len : T.length = ltot Ls
/-- The same, of a row of lists. -/
structure MgRow (Ls Rs : List (List Fl)) : Prop where
  srt : ∀ l ∈ Rs, Srt l
  day : ∀ D, Rs.flatMap (onDay D) = Ls.flatMap (onDay D)
  len : ltot Rs = ltot Ls
theorem MgRow.next {Ls Rs : List (List Fl)} (h : MgRow Ls Rs) : MgRow Ls (mpairs Rs) :=
  ⟨mpairs_srt Rs h.srt, fun D => (mpairs_day D Rs h.srt).trans (h.day D), (mpairs_tot Rs).trans h.len⟩
theorem MgRow.one {Ls : List (List Fl)} {T : List Fl} (h : MgRow Ls [T]) : MgOf Ls T :=
  ⟨h.srt T (by simp), fun D => by have := h.day D; simpa using this, by have := h.len; simpa [ltot] using this⟩
theorem lo_low {w : World} {B B' : Nat} {x : Option Addr} {n : Nat} {Ls : List (List Fl)} (h : LO w B x n Ls) (hb : B' ≤ B) : LO w B' x n Ls := fun b o q i hi => by
  obtain ⟨v, h1, h2⟩ := h b o q i hi
  exact ⟨v, h1, h2.low hb⟩
set_option maxRecDepth 100000 in
set_option maxHeartbeats 4000000 in
theorem merge_own (a : Option Addr) (n cap : Nat) (Ls : List (List Fl)) (w : World) (h : LL w a n Ls) (ht : ltot Ls ≤ 1048576) :
    Calls Try.prog 5 #[.slice a n cap] w fun e w' => Below w.heap.size w w' ∧
      (((∃ l ∈ Ls, srtB l = false) ∧ e = .returned (.tuple #[.slice none 0 0, .int .i64 1])) ∨
       ((∀ l ∈ Ls, srtB l = true) ∧ ∃ T v, e = .returned (.tuple #[v, .int .i64 0]) ∧ OV w' w.heap.size v T ∧ MgOf Ls T)) := by
  have hn : n ≤ 1048576 := h.2.1
  have hl := h.1
  have H := Lib.hid h
  have HL := Lib.hid hl
  have MEM := Lib.hid (p := ∀ i, i < n → Ls.getD i [] ∈ Ls) (fun i hi => by rw [show Ls.getD i [] = Ls[i]'(by omega) by simp [List.getD, show i < Ls.length by omega]]; exact List.getElem_mem _)
  have ALL := Lib.hid (p := (∀ i, i < n → srtB (Ls.getD i []) = true) → ∀ l ∈ Ls, srtB l = true) (fun q l hm => by
    obtain ⟨j, hj, rfl⟩ := List.getElem_of_mem hm
    have := q j (by omega)
    rw [show Ls.getD j [] = Ls[j] by simp [List.getD, hj]] at this
    exact this)
  have KP := Lib.hid (fun A N C W Rs (h : LL W A N Rs) (ht : ltot Rs ≤ 1048576) => pairs_own A N C Rs W h ht)
  clear h hl
  go_enter Try.func5, Try.ntmps5
  go_wp2
  go_loopw [9] (fun t wr => ∃ i : Nat, i ≤ n ∧ t = .int .i64 (i : Int) ∧ (∀ j, j < i → srtB (Ls.getD j []) = true) ∧ Below w.heap.size w wr) (fun t _ => n - (intOf t).toNat)
  case atStart => exact ⟨0, by omega, rfl, fun j hj => by omega, Below.refl _ _⟩
  case round =>
    obtain ⟨i, hi, rfl, hj, hB⟩ := hrel
    rename World => wr
    have BB := Lib.hid hB
    have HJ := Lib.hid hj
    by_cases hlt : i < n
    · obtain ⟨b, o, rfl, hb, hc⟩ := H.out.row (by omega)
      obtain ⟨v, q1, f1⟩ := hc i hlt
      have q1 := (hB.cell (p := ⟨b, o + i, none⟩) hb).trans q1
      have f1 := f1.later hB
      have MI := Lib.hid (MEM.out i hlt)
      have NI := Lib.hid (p := srtB (Ls.getD i []) = true → ∀ j, j < i + 1 → srtB (Ls.getD j []) = true) (fun q j hj' => by
        by_cases e : j = i
        · subst e; exact q
        · exact HJ.out j (by omega))
      generalize Ls.getD i [] = l at *
      obtain ⟨x, c, rfl, fl, _⟩ := f1
      have KS := Lib.hid (fun W (b : Below wr.heap.size wr W) => sorted_any x l.length c l W (fl.later b))
      have ki : (i : Int) < (n : Int) := by omega
      have kw : IntKind.i64.wrap ((i : Int) + 1) = (i : Int) + 1 := by simp [IntKind.wrap, IntKind.bits, IntKind.signed]; omega
      clear fl hB hj hc
      generalize l.length = ln at *
      cases hs : srtB l
      · rw [hs] at KS
        go_wp2_with fail
        go_at_call 10
        refine (KS.out _ (Below.refl _ _)).mono ?_
        rintro e w4 ⟨rfl, b4⟩
        have B4 := Lib.hid (BB.out.trans (b4.mono BB.out.size))
        clear b4
        go_wp2
        go_ret2
        exact ⟨B4.out, .inl ⟨⟨l, MI.out, hs⟩, rfl⟩⟩
      · rw [hs] at KS
        have NJ := Lib.hid (NI.out hs)
        clear hs NI
        go_wp2_with fail
        go_at_call 10
        refine (KS.out _ (Below.refl _ _)).mono ?_
        rintro e w4 ⟨rfl, b4⟩
        have B4 := Lib.hid (BB.out.trans (b4.mono BB.out.size))
        clear b4
        go_wp2
        go_roundw
        case rel => exact ⟨i + 1, by omega, by simp, NJ.out, B4.out⟩
        case measure => simp [intOf]; omega
    · obtain rfl : i = n := by omega
      have ki : ¬ (i : Int) < (i : Int) := by omega
      have AL := Lib.hid (ALL.out hj)
      have MR := Lib.hid (p := MgRow Ls Ls) ⟨fun l hl => srtB_srt (AL.out l hl), fun _ => rfl, rfl⟩
      clear hj hB
      by_cases h0 : i = 0
      · subst h0
        have L0 := Lib.hid (List.length_eq_zero_iff.1 HL.out)
        go_wp2
        go_ret2
        refine ⟨BB.out, .inr ⟨AL.out, [], _, rfl, World.ownsRow_nil _ _ _ _, ?_⟩⟩
        rw [L0.out]
        exact ⟨List.Pairwise.nil, fun D => rfl, rfl⟩
      · have k0 : ¬ ((i : Int) = 0) := by omega
        have k0' : ((i : Int) == 0) = false := by rw [beq_eq_false_iff_ne]; exact k0
        go_wp2_with fail
        go_at_call 12
        refine (KP.out _ _ _ _ Ls (H.out.later BB.out) ht).mono ?_
        rintro e w4 ⟨x4, c4, rfl, b4, l4, o4⟩
        have B4 := Lib.hid (BB.out.trans (b4.mono BB.out.size))
        have L4 := Lib.hid l4
        have O4 := Lib.hid (lo_low o4 BB.out.size)
        clear b4 l4 o4
        go_wp2
        go_loopw [6] (fun r wy => ∃ (x : Option Addr) (m c : Nat) (Rs : List (List Fl)), r = .slice x m c ∧ 1 ≤ m ∧ LL wy x m Rs ∧ LO wy w.heap.size x m Rs ∧ MgRow Ls Rs ∧ Below w.heap.size w wy) (fun r _ => lenV r)
        case atStart => exact ⟨_, _, _, _, rfl, by omega, L4.out, O4.out, MR.out.next, B4.out⟩
        case round =>
          obtain ⟨x, m, c, Rs, rfl, h1, hL, hO, hM, hB⟩ := hrel
          rename World => wy
          have BY := Lib.hid hB
          have LY := Lib.hid hL
          have OY := Lib.hid hO
          have MY := Lib.hid hM
          have tl : ltot Rs ≤ 1048576 := by rw [hM.len]; exact ht
          have m20 := hL.2.1
          clear hL hM hB hO
          by_cases hm1 : 1 < m
          · have km : (1 : Int) < (m : Int) := by omega
            go_wp2_with fail
            go_at_call 12
            refine (KP.out _ _ _ _ Rs LY.out tl).mono ?_
            rintro e w5 ⟨x5, c5, rfl, b5, l5, o5⟩
            have B5 := Lib.hid (BY.out.trans (b5.mono BY.out.size))
            have L5 := Lib.hid l5
            have O5 := Lib.hid (lo_low o5 BY.out.size)
            clear b5 l5 o5
            go_wp2
            go_roundw
            case rel => exact ⟨_, _, _, _, rfl, by omega, L5.out, O5.out, MY.out.next, B5.out⟩
            case measure => simp [lenV]; omega
          · obtain rfl : m = 1 := by omega
            obtain ⟨T, rfl⟩ : ∃ T, Rs = [T] := List.length_eq_one_iff.1 LY.out.1
            obtain ⟨b, o, rfl, hb, hc⟩ := LY.out.row (by omega)
            obtain ⟨v, q1, f1⟩ := OY.out b o rfl 0 (by omega)
            simp only [Nat.add_zero] at q1
            have F1 := Lib.hid (p := OV wy w.heap.size v T) f1
            obtain ⟨x, c', rfl, _⟩ := F1.out.sv (by have := MY.out.one.len; omega)
            clear hc f1
            go_wp2
            go_ret2
            exact ⟨BY.out, .inr ⟨AL.out, T, _, rfl, F1.out, MY.out.one⟩⟩
theorem merge_any (a : Option Addr) (n cap : Nat) (Ls : List (List Fl)) (w : World) (h : LL w a n Ls) (ht : ltot Ls ≤ 1048576) :
    Calls Try.prog 5 #[.slice a n cap] w fun e w' => Below w.heap.size w w' ∧
      (((∃ l ∈ Ls, srtB l = false) ∧ e = .returned (.tuple #[.slice none 0 0, .int .i64 1])) ∨
       ((∀ l ∈ Ls, srtB l = true) ∧ ∃ T v, e = .returned (.tuple #[v, .int .i64 0]) ∧ SV w' v T ∧ MgOf Ls T)) := by
  refine (merge_own a n cap Ls w h ht).mono ?_
  rintro e w' ⟨hb, h1 | ⟨h1, T, v, h2, h3, h4⟩⟩
  · exact ⟨hb, .inl h1⟩
  · exact ⟨hb, .inr ⟨h1, T, v, h2, h3.sv (by have := h4.len; omega), h4⟩⟩
end Go.Proofs.Ytegoeadmddliiaa
