import Derived.Test.YtldplmchgmoopaaDoorXAE
import Derived.Test.YtldplmchgmoopaaDoorXAA
import Derived.Lib.BufferWrite
import Derived.Lib.UnsafeStr
import Derived.Laws.CopyRow
namespace Go.Proofs.YtldplmchgmoopaaDoor
open Go.RowKit
set_option linter.unusedVariables false
set_option linter.unusedSimpArgs false

theorem nextLine_yes (g : Nat) (s : ByteArray) (at_ pl : Nat) (m nm rw : Value) (w : World) (h : TR w g s at_ pl m nm rw) (hk : at_ < s.size) :
    Calls Tryd.prog 15 #[.pointer (some ⟨g, 0, none⟩)] w fun e w' => e = .returned (.bool true) ∧ TR w' g s (at_ + 1) pl m nm rw ∧ Gr g w w' := by
  have TT := Lib.hid h
  obtain ⟨h0, h1, h2, h3, h4, h5⟩ := h.c
  have f1 := h.f 1
  have sz := h.sz
  have kc : ¬ (at_ : Int) = (s.size : Int) := by omega
  have kw : IntKind.i64.wrap ((at_ : Int) + 1) = (at_ : Int) + 1 := by simp [IntKind.wrap, IntKind.bits, IntKind.signed]; omega
  clear h
  go_enter Tryd.func15, Tryd.ntmps15
  go_wp2
  go_quiet (fail)
  go_wp2
  go_ret
  exact ⟨rfl, TT.out.next hk, ((Gr.refl g w).drewN _).set 1 _⟩
theorem nextLine_no (g : Nat) (s : ByteArray) (at_ pl : Nat) (m nm rw : Value) (w : World) (h : TR w g s at_ pl m nm rw) (hk : at_ = s.size) :
    Calls Tryd.prog 15 #[.pointer (some ⟨g, 0, none⟩)] w fun e w' => e = .returned (.bool false) ∧ TR w' g s at_ pl m nm rw ∧ Gr g w w' := by
  have TT := Lib.hid h
  subst hk
  obtain ⟨h0, h1, h2, h3, h4, h5⟩ := h.c
  clear h
  go_enter Tryd.func15, Tryd.ntmps15
  go_wp2
  go_quiet (fail)
  go_wp2
  go_ret
  exact ⟨rfl, TT.out.drewN _, (Gr.refl g w).drewN _⟩
theorem setRow_new (w : World) (cs ds : Array Value) (e : TypeId) : (w.alloc (.cells cs e)).setRow w.heap.size ds = w.alloc (.cells ds e) := by
  have hm : ∀ (a : Array Obj) (x : Obj) (f : Obj → Obj), (a.push x).modify a.size f = a.push (f x) := by
    intro a x f
    apply Array.ext
    · simp
    · intro i h1 h2
      simp only [Array.getElem_modify, Array.getElem_push]
      by_cases h : a.size = i
      · subst h; simp
      · have hi : i < a.size := by simp at h1; omega
        simp [h, hi]
  show ({ w.alloc (.cells cs e) with heap := (w.heap.push (.cells cs e)).modify w.heap.size _ } : World) = _
  rw [hm]
  rfl
end Go.Proofs.YtldplmchgmoopaaDoor

namespace Go.Proofs.YtldplmchgmoopaaDoor
open Go.RowKit
set_option linter.unusedVariables false
set_option linter.unusedSimpArgs false

theorem box_all2 {w : World} {x : Nat} {u v : Value} {t : TypeId} (h : w.heap[x]? = some (.cells #[u, v] t)) : w.cell? ⟨x, 0, none⟩ = some u ∧ w.cell? ⟨x, 1, none⟩ = some v ∧ w.frozen? ⟨x, 0, none⟩ = false ∧ w.frozen? ⟨x, 1, none⟩ = false := by
  refine ⟨?_, ?_, ?_, ?_⟩ <;> simp [World.cell?, World.frozen?, h]
theorem box_set2 {w : World} {x : Nat} {a b u v : Value} {t : TypeId} (h : w.heap[x]? = some (.cells #[a, b] t)) : ((w.setCell ⟨x, 0, none⟩ u).setCell ⟨x, 1, none⟩ v).heap[x]? = some (.cells #[u, v] t) :=
  Joins.block_setCell (Joins.block_setCell h _) _
/-- What cellOf answers. -/
def celE (s : ByteArray) (v E : Int) : Ending :=
  if (s.toList == [45]) = true then .returned (.tuple #[.agg #[.bool false, .int .i64 0], .bool true])
  else if E = 0 then .returned (.tuple #[.agg #[.bool true, .int .i64 v], .bool true]) else .returned (.tuple #[.agg #[.bool false, .int .i64 0], .bool false])
set_option maxHeartbeats 1000000 in
theorem cellOf_any (s : ByteArray) (v E : Int) (w : World) (hp : ∀ W, Below w.heap.size w W → Calls Tryd.prog 45 #[.string s, .int .i64 0] W fun e w' => e = .returned (.tuple #[.int .i64 v, .int .i64 E]) ∧ Below W.heap.size W w') :
    Calls Tryd.prog 33 #[.string s] w fun e w' => e = celE s v E ∧ Below w.heap.size w w' := by
  have A := Lib.hid ((Below.refl w.heap.size w).alloc (Nat.le_refl _) (.cells #[.bool false, .int .i64 0] 65))
  have KP := Lib.hid (hp _ A.out)
  have CE := Lib.hid (p := ∀ w1, Below (w.alloc (.cells #[.bool false, .int .i64 0] 65)).heap.size (w.alloc (.cells #[.bool false, .int .i64 0] 65)) w1 → w1.heap[w.heap.size]? = some (.cells #[.bool false, .int .i64 0] 65)) (fun w1 b => (b.block _ (by simp)).trans (World.alloc_heap_new w _))
  clear hp
  by_cases hs : (s.toList == [45]) = true
  · have e : celE s v E = .returned (.tuple #[.agg #[.bool false, .int .i64 0], .bool true]) := by unfold celE; rw [if_pos hs]
    rw [e]
    clear e
    go_enter Tryd.func33, Tryd.ntmps33
    go_wp2
    obtain ⟨r0, r1, _, _⟩ := box_all2 (World.alloc_heap_new w (.cells #[.bool false, .int .i64 0] 65))
    exact bodyPost_ret (v := .tuple #[.agg #[.bool false, .int .i64 0], .bool true]) (by simp [results, Tryd.results33, go_sem, r0, r1]) rfl ⟨rfl, A.out⟩
  · have hs2 : (s.toList == [45]) = false := by simpa using hs
    by_cases hE : E = 0
    · have e : celE s v E = .returned (.tuple #[.agg #[.bool true, .int .i64 v], .bool true]) := by unfold celE; rw [if_neg hs, if_pos hE]
      rw [e]
      subst hE
      clear e hs
      go_enter Tryd.func33, Tryd.ntmps33
      go_wp2_with (go_at_call 45; refine KP.out.mono ?_; rintro e w1 ⟨rfl, h1⟩; have B1 := Lib.hid (A.out.trans (h1.mono A.out.size)); have hb := Lib.hid (CE.out _ h1); obtain ⟨c0, c1, f0, f1⟩ := box_all2 (CE.out _ h1); clear h1)
      obtain ⟨r0, r1, _, _⟩ := box_all2 (box_set2 (u := .bool true) (v := .int .i64 v) hb.out)
      exact bodyPost_ret (v := .tuple #[.agg #[.bool true, .int .i64 v], .bool true]) (by simp [results, Tryd.results33, go_sem, r0, r1]) rfl ⟨rfl, (B1.out.setCell (p := ⟨w.heap.size, 0, none⟩) (Nat.le_refl _) _).setCell (p := ⟨w.heap.size, 1, none⟩) (Nat.le_refl _) _⟩
    · have e : celE s v E = .returned (.tuple #[.agg #[.bool false, .int .i64 0], .bool false]) := by unfold celE; rw [if_neg hs, if_neg hE]
      rw [e]
      have hE2 : (E == 0) = false := by rw [beq_eq_false_iff_ne]; exact hE
      clear e hs
      go_enter Tryd.func33, Tryd.ntmps33
      go_wp2_with (go_at_call 45; refine KP.out.mono ?_; rintro e w1 ⟨rfl, h1⟩; have B1 := Lib.hid (A.out.trans (h1.mono A.out.size)); have hb := Lib.hid (CE.out _ h1); obtain ⟨c0, c1, f0, f1⟩ := box_all2 (CE.out _ h1); clear h1)
      obtain ⟨r0, r1, _, _⟩ := box_all2 (box_set2 (u := .bool false) (v := .int .i64 0) hb.out)
      exact bodyPost_ret (v := .tuple #[.agg #[.bool false, .int .i64 0], .bool false]) (by simp [results, Tryd.results33, go_sem, r0, r1]) rfl ⟨rfl, (B1.out.setCell (p := ⟨w.heap.size, 0, none⟩) (Nat.le_refl _) _).setCell (p := ⟨w.heap.size, 1, none⟩) (Nat.le_refl _) _⟩

end Go.Proofs.YtldplmchgmoopaaDoor
