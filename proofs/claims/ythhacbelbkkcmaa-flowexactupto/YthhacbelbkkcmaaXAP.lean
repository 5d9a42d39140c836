import Derived.Test.YthhacbelbkkcmaaXAB
import Derived.Laws.OwnMore
import Derived.Deep.DeepAppendRoom
import Derived.Laws.MakeOwn
namespace Go.Proofs.Ythhacbelbkkcmaa
open Go.RowKit
set_option linter.unusedVariables false
set_option linter.unusedSimpArgs false

theorem fcs_appM (a b : List Fl) : fcs (a ++ b) = fcs a ++ fcs b := by simp [fcs]
theorem fcs_oneM (fs : List Fl) : ∀ v ∈ fcs fs, v.oneCell' = true := by
  intro v hv
  unfold fcs at hv
  obtain ⟨f, _, hv⟩ := List.mem_flatMap.1 hv
  simp [Fl.cells] at hv
  rcases hv with rfl | rfl | rfl <;> rfl
/-- A row that fills its block's beginning, with room. -/
def RO (w : World) (g cap : Nat) (acc : List Fl) : Prop := w.ownsRow g 40 3 (.slice (some ⟨g, 0, none⟩) acc.length cap) acc.length (fcs acc)
/-- 'append(run, l...)' where there is room. -/
theorem wp_spare {o : Oper} {a : Act} {K : Act → World → Prop} {Q : Exit → Act → World → Prop} (w : World) (s x : Operand)
    (ho : o.op = .call { callee := .builtin .append, args := #[s, x], argTypes := #[24, 24] }) (g cap : Nat) (acc gs : List Fl) (vx : Value) (hs : a.eval s = .slice (some ⟨g, 0, none⟩) acc.length cap)
    (hx : a.eval x = vx) (hF : SV w vx gs) (hown : RO w g cap acc) (hl : acc.length + gs.length ≤ cap)
    (h : ∀ w', RO w' g cap (acc ++ gs) → w.grownBy w' (some g) → K (a.put o.dst (.slice (some ⟨g, 0, none⟩) (acc ++ gs).length cap)) w') :
    o.wp Try.prog a w K Q := by
  obtain ⟨i0, hi, hz0, hz1, hz2⟩ := info_parts infoF
  obtain ⟨xa, c, rfl, hF, h0, hc⟩ := hF
  cases xa with
  | none =>
    have n0 : gs.length = 0 := by
      rcases hF.2.2 with q | ⟨b, o, q, _⟩
      · exact q
      · cases q
    have g0 : gs = [] := List.length_eq_zero_iff.1 n0
    subst g0
    rw [h0 rfl] at hx
    have hx' : a.eval x = .slice none 0 0 := hx
    have hrun := run_append_owned_none (P := Try.prog) (w := w) g 24 o.type 40 i0 3 Try.underlying24 hi _ acc.length (fcs acc) hown
    have hh := h w (by rw [List.append_nil]; exact hown) ⟨rfl, rfl, rfl, Nat.le_refl _, fun _ _ _ => rfl⟩
    rw [List.append_nil] at hh
    unfold Oper.wp
    simp [execOp, ho, resolve, invoke, builtin, hs, hx', hrun, Result.andThen]
    exact hh
  | some ad =>
    refine wp_append_own_spare (P := Try.prog) w s x 24 ho g 40 i0 3 Try.underlying24 hi hz1 g acc.length cap (fcs acc) hs hown ad gs.length c (fcs gs) hx (by rw [fcs_len]) ?_ (fcs_oneM gs) hl ?_
    · intro j u hj
      have hjn : j < gs.length * 3 := by
        refine Nat.lt_of_not_le fun hc => ?_
        rw [List.getElem?_eq_none (by rw [fcs_len]; exact hc)] at hj
        cases hj
      rcases hF.2.2 with q | ⟨b, o, q, hb', hc⟩
      · omega
      · obtain rfl := Option.some.inj q
        rw [Go.Addr.add_lit]
        have e : j = (j / 3) * 3 + j % 3 := by omega
        rw [← hj]
        obtain ⟨p0, p1, p2⟩ := hc (j / 3) (by omega)
        have hat := fcs_at gs (j / 3) (by omega) (j % 3) (Nat.mod_lt _ (by omega))
        rw [← e] at hat
        rw [hat]
        rcases (show j % 3 = 0 ∨ j % 3 = 1 ∨ j % 3 = 2 by omega) with q | q | q
        · rw [q, show o + j = o + j / 3 * 3 by omega]; exact p0
        · rw [q, show o + j = o + j / 3 * 3 + 1 by omega]; exact p1
        · rw [q, show o + j = o + j / 3 * 3 + 2 by omega]; exact p2
    · intro w' h1 h2
      have hh := h w' (by unfold RO; rw [fcs_appM, List.length_append]; exact h1) h2
      rw [List.length_append] at hh
      exact hh
theorem wpl_spare {ops : Array Oper} {rest : List Oper} {o : Oper} {a : Act} {Q : Exit → Act → World → Prop} (w : World) (hgd : o.guard = none) (s x : Operand)
    (ho : o.op = .call { callee := .builtin .append, args := #[s, x], argTypes := #[24, 24] }) (g cap : Nat) (acc gs : List Fl) (vx : Value) (hs : a.eval s = .slice (some ⟨g, 0, none⟩) acc.length cap)
    (hx : a.eval x = vx) (hF : SV w vx gs) (hown : RO w g cap acc) (hl : acc.length + gs.length ≤ cap)
    (h : ∀ w', RO w' g cap (acc ++ gs) → w.grownBy w' (some g) → wpList Try.prog ops Q rest (a.put o.dst (.slice (some ⟨g, 0, none⟩) (acc ++ gs).length cap)) w') :
    wpList Try.prog ops Q (o :: rest) a w :=
  wpList_plain hgd fun _ hK => wp_spare w s x ho g cap acc gs vx hs hx hF hown hl fun w' h1 h2 => hK _ _ (h w' h1 h2)
/-- The one flow that an append is handed. -/
theorem sv_one (w : World) (f : Fl) : SV (w.alloc (.cells #[.int .i64 f.d, .string f.c, .int .i64 f.a] 40)) (.slice (some ⟨w.heap.size, 0, none⟩) 1 1) [f] := by
  refine ⟨_, _, rfl, ⟨rfl, by simp, .inr ⟨_, _, rfl, by simp, fun i hi => ?_⟩⟩, fun q => (by cases q), by simp⟩
  obtain rfl : i = 0 := by simp at hi; exact hi
  refine ⟨?_, ?_, ?_⟩ <;> simp
theorem RO.alloc {w : World} {g cap : Nat} {acc : List Fl} (h : RO w g cap acc) (o : Obj) : RO (w.alloc o) g cap acc := World.ownsRow.alloc h o
theorem RO.sv {w : World} {g cap : Nat} {acc : List Fl} (h : RO w g cap acc) (hl : acc.length ≤ 4398046511000) : SV w (.slice (some ⟨g, 0, none⟩) acc.length cap) acc := by
  obtain ⟨a, c, q, f⟩ := fl_of_own h hl
  injection q with q1 q2 q3
  subst q1 q3
  refine ⟨_, _, rfl, f, fun q => (by cases q), ?_⟩
  rcases h.2 with ⟨q, _⟩ | ⟨g', cap', cur, q, _, _, hnc, _⟩
  · cases q
  · injection q with _ _ q; subst q; exact hnc
theorem fl_drop {w : World} {b o n : Nat} {fs : List Fl} (h : FL w (some ⟨b, o, none⟩) n fs) (j : Nat) (hj : j ≤ n) : FL w (some ⟨b, o + j * 3, none⟩) (n - j) (fs.drop j) := by
  obtain ⟨h1, h2, h3⟩ := h
  refine ⟨by rw [List.length_drop, h1], by omega, ?_⟩
  rcases h3 with h3 | ⟨b', o', q, hb, hc⟩
  · exact .inl (by omega)
  · injection q with q
    injection q with q1 q2
    subst q1 q2
    refine .inr ⟨b, o + j * 3, rfl, hb, fun i hi => ?_⟩
    have := hc (j + i) (by omega)
    rw [show o + j * 3 + i * 3 = o + (j + i) * 3 by omega]
    rw [show (fs.drop j).getD i default = fs.getD (j + i) default by simp [List.getD, List.getElem?_drop]]
    exact this
theorem infoFs : (Try.prog.info? 24).map (fun i => (i.zero, i.size, i.bytes)) = some (some (.slice none 0 0), 1, 24) := by kernel_rfl
theorem make_lists (n : Nat) (hn : n ≤ 1048576) (W : World) : (Instr.makeSlice 50 (.int .i64 (n : Int)) (.int .i64 (n : Int))).run Try.prog W = .ok (.slice (some ⟨W.heap.size, 0, none⟩) n n) (W.alloc (.cells (madeCells #[.slice none 0 0] n) 24)) := by
  obtain ⟨i0, hi, hz0, hz1, hz2⟩ := info_parts infoFs
  have := run_make (P := Try.prog) W 50 24 i0 _ Try.underlying50 hi hz0 .i64 .i64 n n (by omega) (by omega) (by rw [hz2]; omega) (by omega)
  rw [hz1] at this
  simpa [Value.cells] using this
theorem make_run (n : Nat) (hn : n ≤ 1048576) (W : World) : (Instr.makeSlice 24 (.int .i64 0) (.int .i64 (n : Int))).run Try.prog W = .ok (.slice (some ⟨W.heap.size, 0, none⟩) 0 n) (W.alloc (.cells (madeCells #[.int .i64 0, .string ⟨#[]⟩, .int .i64 0] (n * 3)) 40)) := by
  obtain ⟨i0, hi, hz0, hz1, hz2⟩ := info_parts infoF
  have := run_make (P := Try.prog) W 24 40 i0 _ Try.underlying24 hi hz0 .i64 .i64 0 n (by omega) (by omega) (by rw [hz2]; omega) (by omega)
  rw [hz1] at this
  simpa [Value.cells] using this
end Go.Proofs.Ythhacbelbkkcmaa
