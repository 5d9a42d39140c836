import Derived.Test.YtpfjnnkjoabgbaaGreatDoorXAY
namespace Go.Proofs.YtpfjnnkjoabgbaaGreatDoor
open Go.RowKit
set_option linter.unusedVariables false
set_option linter.unusedSimpArgs false
/-- A value is appended to the stack. -/
theorem wp_push {ops : Array Oper} {rest : List Oper} {o : Oper} {a : Act} {Q : Exit → Act → World → Prop} (w : World) (x : Int) (hgd : o.guard = none) (s y : Operand)
    (ho : o.op = .call { callee := .builtin .append, args := #[s, y], argTypes := #[23, 23] }) (B : Nat) (v : Value) (l : List Int) (hs : a.eval s = v)
    (hy : a.eval y = .slice (some ⟨w.heap.size, 0, none⟩) 1 1) (hv : OwZ w B v l) (hl : l.length ≤ 4398046511000) (hb : B ≤ w.heap.size)
    (h : ∀ g cap w', OwZ w' B (.slice (some ⟨g, 0, none⟩) (l.length + 1) cap) (l ++ [x]) → (w.alloc (.cells #[.int .i64 x] 3)).grownBy w' v.ownBlock → (v.ownBlock = some g ∨ g = w.heap.size + 1) → wpList Tryz.prog ops Q rest (a.put o.dst (.slice (some ⟨g, 0, none⟩) (l.length + 1) cap)) w') :
    wpList Tryz.prog ops Q (o :: rest) a (w.alloc (.cells #[.int .i64 x] 3)) := by
  obtain ⟨i0, hi, hz0, hz1, hz2⟩ := info_parts infoZ
  refine wpList_append_lies _ hgd s y 23 ho B 3 i0 (.int .i64 0) 1 8 Tryz.underlying23 hi hz0 hz1 hz2 rfl (by decide) v _ _ hs (World.ownsRow.alloc hv _) ⟨w.heap.size, 0, none⟩ 1 1 [.int .i64 x] hy rfl ?_ ?_ (by omega) (by unfold maxLen; omega) (by omega) (by simp; omega) (w.heap.size + 1) (by simp) ?_
  · intro j u hj
    match j, hj with
    | 0, hj => simp at hj; subst hj; simp [Addr.add]
  · intro u hu
    simp at hu
    subst hu
    rfl
  · intro g cap w' h1 h2 h3 _
    refine h g cap w' ?_ h2 h3
    unfold OwZ
    rw [zcs_append, List.length_append]
    exact h1
set_option maxRecDepth 100000 in
set_option maxHeartbeats 1600000 in
theorem mput_any {K : Kx} {w : World} {steps : Int} {r : Rn} (h : RoE K w steps r) (v : Int) (hv : inR v) (hl : r.st.length ≤ 4398046511000) : Calls Tryz.prog 107 #[.pointer (some ⟨K.rb, 0, none⟩), .int .i64 v] w fun e w' => e = .returned (.int .i64 0) ∧ RoE K w' steps (r.put v) := by
  obtain ⟨stv, slv, flv, h⟩ := h
  have HH := Lib.hid h
  have c5 := (run_cells h).2.2.2.2.2.1
  have hb := h.BB
  have E := Lib.hid (p := ∀ w' g cap, OwZ w' K.B (.slice (some ⟨g, 0, none⟩) (r.st.reverse.length + 1) cap) (r.st.reverse ++ [v]) → (w.alloc (.cells #[.int .i64 v] 3)).grownBy w' stv.ownBlock → (stv.ownBlock = some g ∨ g = w.heap.size + 1) → RoE K (w'.setCell ⟨K.rb, 5, none⟩ (.slice (some ⟨g, 0, none⟩) (r.st.length + 1) cap)) steps (r.put v) ∧ w'.cell? ⟨K.rb, 5, none⟩ = some stv ∧ w'.frozen? ⟨K.rb, 5, none⟩ = false) (fun w' x cap o g b => by
    have h1 := HH.out.lat (allocBP w (.cells #[.int .i64 v] 3))
    have k : BkP w' K.rb (rArr K stv slv flv r) 83 := h1.rb.grown g (fun e => own_neB h1.st h1.rb (by decide) e.symm)
    rw [List.length_reverse] at o
    refine ⟨⟨_, slv, flv, h1.stack g (.inr rfl) (by simpa using o) ?_ ?_⟩, ?_, k.frozen 5⟩
    · rcases b with q | q
      · exact .inr (.inl (by rw [q]; rfl))
      · exact .inr (.inr ⟨w.heap.size + 1, by simp, by rw [q]; rfl⟩)
    · intro x hx
      rcases List.mem_cons.1 hx with rfl | q
      · exact hv
      · exact h.r1 x q
    · rw [k.cell]
      rfl)
  clear hv
  have c5a : ∀ o, (w.alloc o).cell? ⟨K.rb, 5, none⟩ = some stv := fun o => (Below.cell (allocBP w o) (p := ⟨K.rb, 5, none⟩) h.rb.lt).trans c5
  have OO := Lib.hid h.st
  have LL := Lib.hid (p := r.st.reverse.length ≤ 4398046511000) (by simpa using hl)
  clear h hl
  go_enter Tryz.func107, Tryz.ntmps107
  go_wp2_with (at_builtin; refine wp_push _ v rfl _ _ rfl K.B stv r.st.reverse rfl rfl OO.out LL.out hb ?_; intro g cap w1 h1 h2 h3; obtain ⟨e1, e2, e3⟩ := E.out w1 g cap h1 h2 h3; rw [List.length_reverse]; have E1 := Lib.hid e1; clear e1 h1 h2 h3)
  go_ret
  exact ⟨rfl, E1.out⟩
/-- The stack of a day's code, if something lies on it. -/
theorem st_form {K : Kx} {w : World} {stv slv flv : Value} {steps : Int} {r : Rn} (h : RO K w stv slv flv steps r) {x : Int} {l : List Int} (e : r.st = x :: l) : ∃ g cap, stv = .slice (some ⟨g, 0, none⟩) (l.length + 1) cap ∧ l.length + 1 ≤ cap ∧ w.cell? ⟨g, l.length, none⟩ = some (.int .i64 x) ∧ OwZ w K.B (.slice (some ⟨g, 0, none⟩) l.length cap) l.reverse := by
  have q := h.st
  rw [e] at q
  obtain ⟨a, cap, h1, h2, h3⟩ := q.form
  obtain ⟨g, rfl, _, _⟩ := h3 (by simp)
  subst h1
  have len : (x :: l).reverse.length = l.length + 1 := by simp
  refine ⟨g, cap, by rw [len], by rw [len] at h2; exact h2, ?_, ?_⟩
  · have := q.cell (i := l.length) (by simp)
    rw [this]
    congr 2
    simp [List.getD]
  · have := q.cut (k := l.length) (by simp)
    simpa using this
theorem drewB (w : World) (q : Nat) : Below w.heap.size w (w.drewN q) := ⟨rfl, rfl, rfl, Nat.le_refl _, fun _ _ => rfl⟩
theorem drew1 (w : World) : Below w.heap.size w w.drew := ⟨rfl, rfl, rfl, Nat.le_refl _, fun _ _ => rfl⟩
set_option maxRecDepth 100000 in
set_option maxHeartbeats 800000 in
theorem top_any {K : Kx} {w : World} {steps : Int} {r : Rn} (h : RoE K w steps r) {x : Int} {l : List Int} (e : r.st = x :: l) : Calls Tryz.prog 110 #[.pointer (some ⟨K.rb, 0, none⟩)] w fun e w' => e = .returned (.int .i64 x) ∧ ∃ q, w' = w.drewN q := by
  obtain ⟨stv, slv, flv, h⟩ := h
  obtain ⟨g, cap, rfl, hcap, hc, _⟩ := st_form h e
  have c5 := (run_cells h).2.2.2.2.2.1
  have hn : l.length < 9223372036854775807 := by
    have := h.st.2
    rcases this with ⟨q, _⟩ | ⟨g', cap', cur, q, _, _, _, q5, _⟩
    · cases q
    · injection q with _ _ q
      subst q
      unfold maxLen at q5
      omega
  obtain ⟨n, hl⟩ : ∃ n, l.length = n := ⟨_, rfl⟩
  obtain ⟨m, hm⟩ : ∃ m, l.length + 1 = m := ⟨_, rfl⟩
  have ew : IntKind.i64.wrap ((m : Int) - 1) = (n : Int) := by simp [IntKind.wrap, IntKind.bits, IntKind.signed]; omega
  have l1 : ¬ (n : Int) < 0 := by omega
  have l2 : (n : Int) < (m : Int) := by omega
  rw [hm] at c5
  rw [hl] at hc
  clear hl hm h e hcap hn
  go_enter Tryz.func110, Tryz.ntmps110
  go_wp2
  go_quiet (fail)
  go_wp2
  go_ret
  exact ⟨rfl, _, rfl⟩
end Go.Proofs.YtpfjnnkjoabgbaaGreatDoor

namespace Go.Proofs.YtpfjnnkjoabgbaaGreatDoor
open Go.RowKit
set_option linter.unusedVariables false
set_option linter.unusedSimpArgs false
/-- Every box that is no run stays. -/
def Sty (w w' : World) : Prop := ∀ b cs t, BkP w b cs t → t ≠ 83 → BkP w' b cs t
theorem ro_cut {K : Kx} {w : World} {stv slv flv : Value} {steps : Int} {r : Rn} (h : RO K w stv slv flv steps r) {x : Int} {l : List Int} (e : r.st = x :: l) {g cap : Nat} (hs : stv = .slice (some ⟨g, 0, none⟩) (l.length + 1) cap) (ho : OwZ w K.B (.slice (some ⟨g, 0, none⟩) l.length cap) l.reverse) : RO K (w.setCell ⟨K.rb, 5, none⟩ (.slice (some ⟨g, 0, none⟩) l.length cap)) (.slice (some ⟨g, 0, none⟩) l.length cap) slv flv steps { r with st := l } :=
  h.stack (x := none) ⟨rfl, rfl, rfl, Nat.le_refl _, fun _ _ _ => rfl⟩ (.inl rfl) ho (.inr (.inl (by rw [hs]; rfl))) (fun y hy => h.r1 y (by rw [e]; exact List.mem_cons_of_mem _ hy))
set_option maxRecDepth 100000 in
set_option maxHeartbeats 1600000 in
theorem take_ro {K : Kx} {w : World} {stv slv flv : Value} {steps : Int} {r : Rn} (h : RO K w stv slv flv steps r) {x : Int} {l : List Int} (e : r.st = x :: l) : Calls Tryz.prog 109 #[.pointer (some ⟨K.rb, 0, none⟩)] w fun e w' => e = .returned (.int .i64 x) ∧ (∃ sv, RO K w' sv slv flv steps { r with st := l }) ∧ Sty w w' := by
  have KT := Lib.hid (top_any ⟨_, _, _, h⟩ e)
  obtain ⟨g, cap, hs, hcap, _, _⟩ := st_form h e
  have hn : l.length < 9223372036854775807 := by
    have := h.st.2
    rw [hs] at this
    rcases this with ⟨q, _⟩ | ⟨g', cap', cur, q, _, _, _, q5, _⟩
    · cases q
    · injection q with _ _ q
      subst q
      unfold maxLen at q5
      omega
  have E := Lib.hid (p := ∀ V, Below w.heap.size w V → V.cell? ⟨K.rb, 5, none⟩ = some (.slice (some ⟨g, 0, none⟩) (l.length + 1) cap) ∧ V.frozen? ⟨K.rb, 5, none⟩ = false ∧ (∃ sv, RO K (V.setCell ⟨K.rb, 5, none⟩ (.slice (some ⟨g, 0, none⟩) l.length cap)) sv slv flv steps { r with st := l }) ∧ Sty w (V.setCell ⟨K.rb, 5, none⟩ (.slice (some ⟨g, 0, none⟩) l.length cap))) (fun V b => by
    have h' := h.lat b
    obtain ⟨g', cap', hs', _, _, ho⟩ := st_form h' e
    have hs2 := hs'
    rw [hs] at hs'
    injection hs' with q1 q2 q3
    injection q1 with q1
    injection q1 with q1
    subst q1 q3
    refine ⟨by rw [← hs]; exact (run_cells h').2.2.2.2.2.1, h'.rb.frozen 5, ⟨_, ro_cut h' e hs2 ho⟩, fun y cs t q ht => (q.lat b).other _ _ _ (bk_ne h'.rb (q.lat b) (Ne.symm ht))⟩)
  obtain ⟨n, hl⟩ : ∃ n, l.length = n := ⟨_, rfl⟩
  obtain ⟨m, hm⟩ : ∃ m, l.length + 1 = m := ⟨_, rfl⟩
  have ew : IntKind.i64.wrap ((m : Int) - 1) = (n : Int) := by simp [IntKind.wrap, IntKind.bits, IntKind.signed]; omega
  have l1 : ¬ (n : Int) < 0 := by omega
  have l2 : (n : Int) < (m : Int) := by omega
  have l3 : ¬ (cap : Int) < (n : Int) := by omega
  have l4 : n ≤ cap := by omega
  rw [hm, hl] at E
  clear hl hm h e hcap hn hs
  go_enter Tryz.func109, Tryz.ntmps109
  go_wp2_with (go_at_call 110; refine KT.out.mono ?_; rintro e w1 ⟨rfl, q, rfl⟩; obtain ⟨z1, z2, z3⟩ := E.out _ (drewB w q))
  obtain ⟨W, hW⟩ : ∃ W, w.drewN q = W := ⟨_, rfl⟩
  have EE := Lib.hid (p := ∀ V, Below W.heap.size W V → V.cell? ⟨K.rb, 5, none⟩ = some (.slice (some ⟨g, 0, none⟩) m cap) ∧ V.frozen? ⟨K.rb, 5, none⟩ = false ∧ (∃ sv, RO K (V.setCell ⟨K.rb, 5, none⟩ (.slice (some ⟨g, 0, none⟩) n cap)) sv slv flv steps { r with st := l }) ∧ Sty w (V.setCell ⟨K.rb, 5, none⟩ (.slice (some ⟨g, 0, none⟩) n cap))) (fun V b => E.out V (by rw [← hW] at b; exact (drewB w q).trans b))
  rw [hW] at z1 z2 z3 ⊢
  clear hW E z3
  obtain ⟨z4, z5, z6⟩ := EE.out W.drew (drew1 W)
  go_region
  all_goals go_wp2
  all_goals go_ret
  all_goals exact ⟨rfl, z6⟩
theorem mtake_any {K : Kx} {w : World} {steps : Int} {r : Rn} (h : RoE K w steps r) {x : Int} {l : List Int} (e : r.st = x :: l) : Calls Tryz.prog 109 #[.pointer (some ⟨K.rb, 0, none⟩)] w fun e w' => e = .returned (.int .i64 x) ∧ RoE K w' steps { r with st := l } ∧ Sty w w' := by
  obtain ⟨stv, slv, flv, h⟩ := h
  refine (take_ro h e).mono ?_
  rintro e w' ⟨rfl, ⟨sv, q⟩, s⟩
  exact ⟨rfl, ⟨_, _, _, q⟩, s⟩
theorem pair_any {K : Kx} {w : World} {steps : Int} {r : Rn} (h : RoE K w steps r) {x y : Int} {l : List Int} (e : r.st = y :: x :: l) : Calls Tryz.prog 113 #[.pointer (some ⟨K.rb, 0, none⟩)] w fun e w' => e = .returned (.tuple #[.int .i64 x, .int .i64 y]) ∧ RoE K w' steps { r with st := l } ∧ Sty w w' := by
  have K1 := Lib.hid (mtake_any h e)
  have K2 := Lib.hid (p := ∀ V, RoE K V steps { r with st := x :: l } → Calls Tryz.prog 109 #[.pointer (some ⟨K.rb, 0, none⟩)] V fun e w' => e = .returned (.int .i64 x) ∧ RoE K w' steps { r with st := l } ∧ Sty V w') (fun V h => mtake_any (r := { r with st := x :: l }) h rfl)
  clear h e
  have M1 : True := trivial
  go_enter Tryz.func113, Tryz.ntmps113
  go_wp2_with (first | (go_at_call 109; have qq := M1; refine K1.out.mono ?_; clear qq M1; rintro e w1 ⟨rfl, h1, s1⟩; have H1 := Lib.hid h1; have S1 := Lib.hid s1; clear h1 s1; have M2 : True := trivial) | (go_at_call 109; have qq := M2; refine (K2.out w1 H1.out).mono ?_; clear qq M2; rintro e w2 ⟨rfl, h1, s2⟩; have H2 := Lib.hid h1; have S2 := Lib.hid s2; clear h1 s2))
  go_ret2
  exact ⟨rfl, H2.out, fun y cs t q ht => S2.out y cs t (S1.out y cs t q ht) ht⟩
/-- What was worked out is put, unless it went wrong. -/
theorem result_ok {K : Kx} {w : World} {steps : Int} {r : Rn} (h : RoE K w steps r) (v : Int) (hv : inR v) (hl : r.st.length ≤ 4398046511000) : Calls Tryz.prog 111 #[.pointer (some ⟨K.rb, 0, none⟩), .int .i64 v, .int .i64 0] w fun e w' => e = .returned (.int .i64 0) ∧ RoE K w' steps (r.put v) := by
  have K1 := Lib.hid (mput_any h v hv hl)
  clear h hv hl
  go_enter Tryz.func111, Tryz.ntmps111
  go_wp2_with (go_at_call 107; refine K1.out.mono ?_; rintro e w1 ⟨rfl, h1⟩; have H1 := Lib.hid h1; clear h1)
  go_ret
  exact ⟨rfl, H1.out⟩
theorem result_bad {K : Kx} {w : World} {steps : Int} {r : Rn} (h : RoE K w steps r) (v f : Int) (hf : f ≠ 0) : Calls Tryz.prog 111 #[.pointer (some ⟨K.rb, 0, none⟩), .int .i64 v, .int .i64 f] w fun e w' => e = .returned (.int .i64 f) ∧ RoE K w' steps r := by
  have H := Lib.hid h
  have f1 : (f != 0) = true := by simpa using hf
  clear h hf
  go_enter Tryz.func111, Tryz.ntmps111
  go_wp2
  go_ret
  exact ⟨rfl, H.out⟩
/-- The result of an operator. -/
def resR (r : Rn) (v f : Int) : Rn := if f = 0 then r.put v else r
theorem result_any {K : Kx} {w : World} {steps : Int} {r : Rn} (h : RoE K w steps r) (v f : Int) (hv : inR v) (hl : r.st.length ≤ 4398046511000) : Calls Tryz.prog 111 #[.pointer (some ⟨K.rb, 0, none⟩), .int .i64 v, .int .i64 f] w fun e w' => e = .returned (.int .i64 f) ∧ RoE K w' steps (resR r v f) := by
  unfold resR
  by_cases e : f = 0
  · subst e
    rw [if_pos rfl]
    exact result_ok h v hv hl
  · rw [if_neg e]
    exact result_bad h v f e
theorem answer_any {K : Kx} {w : World} {steps : Int} {r : Rn} (h : RoE K w steps r) (b : Bool) (hl : r.st.length ≤ 4398046511000) : Calls Tryz.prog 121 #[.pointer (some ⟨K.rb, 0, none⟩), .bool b] w fun e w' => e = .returned (.int .i64 0) ∧ RoE K w' steps (r.put (trI b)) := by
  have K1 := Lib.hid (mput_any h (trI b) (by unfold trI inR; split <;> omega) hl)
  clear h hl
  cases b
  · simp only [trI, Bool.false_eq_true, if_false] at K1 ⊢
    go_enter Tryz.func121, Tryz.ntmps121
    go_wp2_with (go_at_call 107; refine K1.out.mono ?_; rintro e w1 ⟨rfl, h1⟩; have H1 := Lib.hid h1; clear h1)
    go_ret
    exact ⟨rfl, H1.out⟩
  · simp only [trI, if_true] at K1 ⊢
    go_enter Tryz.func121, Tryz.ntmps121
    go_wp2_with (go_at_call 107; refine K1.out.mono ?_; rintro e w1 ⟨rfl, h1⟩; have H1 := Lib.hid h1; clear h1)
    go_ret
    exact ⟨rfl, H1.out⟩
end Go.Proofs.YtpfjnnkjoabgbaaGreatDoor
