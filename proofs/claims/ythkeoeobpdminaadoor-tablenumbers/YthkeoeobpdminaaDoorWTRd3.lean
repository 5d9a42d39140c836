/-
  WALKS: dayOf of "0", cellOf, Clone of "A", newRow of one cell, nextLine.
-/
import Derived.Test.YthkeoeobpdminaaDoorWTRd2
import Derived.Test.YthkeoeobpdminaaDoorWTCols
import Derived.Lib.BufferWrite
import Derived.Lib.UnsafeStr
import Derived.Laws.CopyRow
namespace Go.Proofs.YthkeoeobpdminaaDoor
open Go.RowKit
set_option linter.unusedVariables false
set_option linter.unusedSimpArgs false

theorem dayOf_0 (w : World) : Calls Tryd.prog 58 #[.string ⟨#[48]⟩] w fun e w' => e = .returned (.tuple #[.int .i64 0, .bool true]) ∧ w' = w := by
  have KD := Lib.hid (fun W => isDigT_any 48 W)
  rw [show dgB 48 = true by decide] at KD
  have sz : (⟨#[48]⟩ : ByteArray).size = 1 := rfl
  go_enter Tryd.func58, Tryd.ntmps58
  go_wp2
  go_loopw [4, 16] (fun d t wr => wr = w ∧ d = .int .i64 0 ∧ (t = .int .i64 0 ∨ t = .int .i64 1)) (fun _ t _ => 1 - (intOf t).toNat)
  case atStart => exact ⟨rfl, rfl, .inl rfl⟩
  case round =>
    obtain ⟨rfl, rfl, rfl | rfl⟩ := hrel
    · go_wp2_with (go_at_call 64; refine (KD.out _).mono ?_; rintro e w' ⟨rfl, rfl⟩)
      go_roundw
      case rel => simp; rfl
      case measure => simp [intOf]
    · go_wp2
      go_ret2
      exact ⟨rfl, rfl⟩
theorem nextLine_yes (g : Nat) (s : ByteArray) (at_ pl : Nat) (m nm rw : Value) (w : World) (h : TR w g s at_ pl m nm rw) (hk : at_ < s.size) :
    Calls Tryd.prog 36 #[.pointer (some ⟨g, 0, none⟩)] w fun e w' => e = .returned (.bool true) ∧ TR w' g s (at_ + 1) pl m nm rw ∧ Gr g w w' := by
  have TT := Lib.hid h
  obtain ⟨h0, h1, h2, h3, h4, h5⟩ := h.c
  have f1 := h.f 1
  have sz := h.sz
  have kc : ¬ (at_ : Int) = (s.size : Int) := by omega
  have kw : IntKind.i64.wrap ((at_ : Int) + 1) = (at_ : Int) + 1 := by simp [IntKind.wrap, IntKind.bits, IntKind.signed]; omega
  clear h
  go_enter Tryd.func36, Tryd.ntmps36
  go_wp2
  go_quiet (fail)
  go_wp2
  go_ret
  exact ⟨rfl, TT.out.next hk, ((Gr.refl g w).drewN _).set 1 _⟩
theorem nextLine_no (g : Nat) (s : ByteArray) (at_ pl : Nat) (m nm rw : Value) (w : World) (h : TR w g s at_ pl m nm rw) (hk : at_ = s.size) :
    Calls Tryd.prog 36 #[.pointer (some ⟨g, 0, none⟩)] w fun e w' => e = .returned (.bool false) ∧ TR w' g s at_ pl m nm rw ∧ Gr g w w' := by
  have TT := Lib.hid h
  subst hk
  obtain ⟨h0, h1, h2, h3, h4, h5⟩ := h.c
  clear h
  go_enter Tryd.func36, Tryd.ntmps36
  go_wp2
  go_quiet (fail)
  go_wp2
  go_ret
  exact ⟨rfl, TT.out.drewN _, (Gr.refl g w).drewN _⟩
theorem make_b1 (W : World) : (Instr.makeSlice 53 (.int .i64 1) (.int .i64 1)).run Tryd.prog W = .ok (.slice (some ⟨W.heap.size, 0, none⟩) 1 1) (W.alloc (.cells #[.int .u8 0] 5)) := by
  obtain ⟨i0, hi, hz0, hz1, hz2⟩ := info_parts info8
  have := run_make (P := Tryd.prog) W 53 5 i0 _ Tryd.underlying53 hi hz0 .i64 .i64 1 1 (by omega) (by omega) (by rw [hz2]; omega) (by omega)
  rw [hz1] at this
  have e : madeCells (Value.int IntKind.u8 0).cells (Int.toNat 1 * 1) = #[.int .u8 0] := by kernel_rfl
  rw [e] at this
  exact this
theorem freeze_below (w : World) (o : Obj) (n : Nat) : Below w.heap.size w ((w.alloc o).freeze ⟨w.heap.size, 0, none⟩ n) :=
  Lib.below_freeze ((Below.refl _ w).alloc (Nat.le_refl _) _) (p := ⟨w.heap.size, 0, none⟩) (Nat.le_refl _) n
theorem setRow_new (w : World) (cs ds : Array Value) (e : TypeId) : (w.alloc (.cells cs e)).setRow w.heap.size ds = w.alloc (.cells ds e) := by
  have hm : ∀ (a : Array Obj) (x : Obj) (f : Obj → Obj), (a.push x).modify a.size f = a.push (f x) := by
    intro a x f
    apply Array.ext
    · simp
    · intro i h1 h2
      simp only [Array.getElem_modify, Array.getElem_push]
      by_cases h : a.size = i
      · subst h; simp
      · have hi : i < a.size := by simp at h1; omega
        simp [h, hi]
  show ({ w.alloc (.cells cs e) with heap := (w.heap.push (.cells cs e)).modify w.heap.size _ } : World) = _
  rw [hm]
  rfl
theorem clone_A (w : World) : Calls Tryd.prog 57 #[.string ⟨#[65]⟩] w fun e w' => e = .returned (.string ⟨#[65]⟩) ∧ Below w.heap.size w w' := by
  have K := Lib.hid (p := ∀ W, Calls Tryd.prog 75 #[.string ⟨#[65]⟩] W fun e w' => e = .returned (.string ⟨#[65]⟩) ∧ Below W.heap.size W w') (fun W => by
    have hmk := make_b1
    have hcp : ∀ (W : World) (ty : TypeId), (Builtin.copy_ #[53, 9] ty #[.slice (some ⟨W.heap.size, 0, none⟩) 1 1, .string ⟨#[65]⟩]).run Tryd.prog (W.alloc (.cells #[.int .u8 0] 5)) = .ok (.int .i64 1) (W.alloc (.cells #[.int .u8 65] 5)) := fun W ty => by
      have := Lib.run_copy_row_string (P := Tryd.prog) (W.alloc (.cells #[.int .u8 0] 5)) 53 9 ty 5 W.heap.size 0 1 1 ⟨#[65]⟩ _ _ Tryd.underlying53 (by kernel_rfl) (World.alloc_heap_new W _) (by decide) (by decide)
      rw [this]
      exact congrArg (Result.ok _) (setRow_new W _ _ _)
    have hus : ∀ (W : World) (ty : TypeId), (Builtin.unsafeString_ #[126, 3] ty #[.pointer (some ⟨W.heap.size, 0, none⟩), .int .i64 1]).run Tryd.prog (W.alloc (.cells #[.int .u8 65] 5)) = .ok (.string ⟨#[65]⟩) ((W.alloc (.cells #[.int .u8 65] 5)).freeze ⟨W.heap.size, 0, none⟩ 1) := fun W ty =>
      Lib.run_unsafeString_row (P := Tryd.prog) (W.alloc (.cells #[.int .u8 65] 5)) 126 3 ty 5 Tryd.underlying126 (by kernel_rfl) W.heap.size 1 (by unfold World.shape?; rw [World.alloc_heap_new]; rfl) [65] (by simp) (by simp) (by simp) (fun j x hj => by
        match j, hj with
        | 0, hj => simp at hj; subst hj; simp [Addr.add])
    have B := Lib.hid (freeze_below W (.cells #[.int .u8 65] 5) 1)
    go_enter Tryd.func75, Tryd.ntmps75
    go_wp2
    go_ret
    exact ⟨rfl, B.out⟩)
  go_enter Tryd.func57, Tryd.ntmps57
  go_wp2_with (go_at_call 75; refine (K.out _).mono ?_; rintro e w1 ⟨rfl, h1⟩; have B := Lib.hid h1; clear h1)
  go_ret
  exact ⟨rfl, B.out⟩
end Go.Proofs.YthkeoeobpdminaaDoor
