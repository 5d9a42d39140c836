import Derived.Test.YtccjeipkljdhdaaGreatDoorXAR
namespace Go.Proofs.YtccjeipkljdhdaaGreatDoor
open Go.RowKit
set_option linter.unusedVariables false
set_option linter.unusedSimpArgs false

theorem infoTq : (Tryz.prog.info? 9).map (fun i => (i.zero, i.size, i.bytes)) = some (some (.string ⟨#[]⟩), 1, 16) := by kernel_rfl
/-- A text is appended. -/
theorem wp_stA {ops : Array Oper} {rest : List Oper} {o : Oper} {a : Act} {Q : Exit → Act → World → Prop} (W : World) (B : Nat) (u : ByteArray) (l : List ByteArray) (hgd : o.guard = none) (sl x : Operand)
    (ho : o.op = .call { callee := .builtin .append, args := #[sl, x], argTypes := #[23, 23] }) (v : Value) (hs : a.eval sl = v)
    (hx : a.eval x = .slice (some ⟨W.heap.size, 0, none⟩) 1 1) (hown : OwQ W B v l) (hl : l.length ≤ 1073741824) (hb : B ≤ W.heap.size)
    (h : ∀ v' w', OwQ w' B v' (l ++ [u]) → (W.alloc (.cells #[.string u] 9)).grownBy w' v.ownBlock → wpList Tryz.prog ops Q rest (a.put o.dst v') w') :
    wpList Tryz.prog ops Q (o :: rest) a (W.alloc (.cells #[.string u] 9)) := by
  obtain ⟨i0, hi, hz0, hz1, hz2⟩ := info_parts infoTq
  refine wpList_append_own _ hgd sl x 23 ho B 9 i0 (.string ⟨#[]⟩) 1 16 Tryz.underlying23 hi hz0 hz1 hz2 rfl (by decide) v _ _ hs (World.ownsRow.alloc hown _) ⟨W.heap.size, 0, none⟩ 1 1 [.string u] hx rfl ?_ ?_ (by unfold maxLen; omega) (by omega) (by simp; omega) ?_
  · intro j v hj
    match j, hj with
    | 0, hj => simp at hj; subst hj; simp [Addr.add]
  · intro v hv
    rw [List.mem_singleton.1 hv]; rfl
  · intro v' w' h1 h2 _
    refine h v' w' ?_ h2
    unfold OwQ
    rw [List.length_append, List.map_append]
    exact h1
/-- What stands while a text is split. -/
structure SpI (s : ByteArray) (us : List ByteArray) (at_ i : Nat) : Prop where
  all : us ++ lnsL s at_ = lnsL s 0
  le : at_ ≤ i
  li : i ≤ s.size
  eq : fy lfA s at_ = fy lfA s i
  len : us.length ≤ i
theorem SpI.on {s : ByteArray} {us : List ByteArray} {a i : Nat} (h : SpI s us a i) (hi : i < s.size) (y : yb s i ≠ 10) : SpI s us a (i + 1) :=
  ⟨h.all, by have := h.le; omega, by omega, by rw [h.eq]; exact fy_go hi (by simp [lfA, y]), by have := h.len; omega⟩
theorem SpI.cut {s : ByteArray} {us : List ByteArray} {a i : Nat} (h : SpI s us a i) (hi : i < s.size) (y : yb s i = 10) : SpI s (us ++ [s.extract a i]) (i + 1) (i + 1) := by
  have e : fy lfA s a = i := by rw [h.eq]; exact fy_stop (fun q => by have := q.2; simp [lfA, y] at this)
  have le := h.le
  refine ⟨?_, Nat.le_refl _, by omega, rfl, by have := h.len; simp; omega⟩
  rw [← h.all, lnsL.eq_def s a, dif_pos (by omega), e]
  simp
theorem SpI.fin {s : ByteArray} {us : List ByteArray} {a : Nat} (h : SpI s us a s.size) : lnsL s 0 = if a < s.size then us ++ [s.extract a s.size] else us := by
  have e : fy lfA s a = s.size := by rw [h.eq]; exact fy_stop (fun q => absurd q.1 (by omega))
  rw [← h.all, lnsL.eq_def s a]
  by_cases q : a < s.size
  · rw [dif_pos q, if_pos q, e, lnsL, dif_neg (by omega)]
  · rw [dif_neg q, if_neg q]
    simp
/-- A text's lines, of the call's own. -/
def SpE (w : World) (s : ByteArray) (e : Ending) (w' : World) : Prop := ∃ v, e = .returned v ∧ OwQ w' w.heap.size v (lnsL s 0) ∧ Below w.heap.size w w'
set_option maxRecDepth 100000 in
set_option maxHeartbeats 2000000 in
theorem split_any (s : ByteArray) (hs : s.size ≤ 134217728) (w : World) :
    Calls Tryz.prog 26 #[.string s] w fun e w' => SpE w s e w' := by
  have hmax : s.size ≤ maxLen := by unfold maxLen; omega
  go_enter Tryz.func26, Tryz.ntmps26
  go_wp2
  go_loopw [3, 4, 5] (fun v t4 t5 W => ∃ (k a : Nat) (us : List ByteArray), t4 = .int .i64 (a : Int) ∧ t5 = .int .i64 (k : Int) ∧ RowKit.Hid (SpI s us a k) ∧ k ≤ s.size ∧ a ≤ k ∧ RowKit.Hid (OwQ W w.heap.size v us) ∧ RowKit.Hid (Below w.heap.size w W)) (fun _ _ t _ => s.size - (intOf t).toNat)
  case atStart => exact ⟨0, 0, [], rfl, rfl, ⟨rfl, Nat.le_refl _, Nat.zero_le _, rfl, Nat.le_refl _⟩, Nat.zero_le _, Nat.le_refl _, World.ownsRow_nil _ _ _ _, Below.refl _ _⟩
  case round =>
    rename World => W
    obtain ⟨k, a, us, rfl, rfl, HI, hk, ha, HO, HB⟩ := hrel
    by_cases hlt : k < s.size
    · have kc : (k : Int) < (s.size : Int) := by omega
      have ac : (a : Int) ≤ (k : Int) := by omega
      have kc' : (k : Int) ≤ (s.size : Int) := by omega
      have yl := yb_lt hlt
      have ON := Lib.hid (HI.out.on hlt)
      have CT := Lib.hid (HI.out.cut hlt)
      have lb : us.length ≤ 1073741824 := by have := HI.out.len; omega
      rw [yl] at ON CT
      clear yl
      by_cases hc : s[k].toNat = 10
      · have C1 := Lib.hid (CT.out (by omega))
        clear ON CT
        go_wp2_with (at_builtin; refine wp_stA _ w.heap.size (s.extract a k) us rfl _ _ rfl _ rfl rfl HO.out lb HB.out.size ?_; intro v3 w3 o3 g3; have O3 := Lib.hid o3; have B3 := Lib.hid ((HB.out.alloc HB.out.size _).grown g3 (Nat.le_trans HB.out.size (by simp)) (fun k e => (World.ownsRow.lt HO.out k e).1)); clear o3 g3)
        go_roundw
        case rel => exact ⟨k + 1, k + 1, us ++ [s.extract a k], by go_num, by go_num, C1, by omega, Nat.le_refl _, O3, B3⟩
        case measure => simp [intOf]; omega
      · have C1 := Lib.hid (ON.out (by omega))
        clear ON CT
        go_wp2
        go_roundw
        case rel => exact ⟨k + 1, a, us, by go_num, by go_num, C1, by omega, by omega, HO, HB⟩
        case measure => simp [intOf]; omega
    · obtain rfl : k = s.size := by omega
      have FI := Lib.hid HI.out.fin
      have lb : us.length ≤ 1073741824 := by have := HI.out.len; omega
      have ac : (a : Int) ≤ (s.size : Int) := by omega
      by_cases ha2 : a < s.size
      · have ac2 : (a : Int) < (s.size : Int) := by omega
        go_wp2_with (at_builtin; refine wp_stA _ w.heap.size (s.extract a s.size) us rfl _ _ rfl _ rfl rfl HO.out lb HB.out.size ?_; intro v3 w3 o3 g3; have O3 := Lib.hid o3; have B3 := Lib.hid ((HB.out.alloc HB.out.size _).grown g3 (Nat.le_trans HB.out.size (by simp)) (fun k e => (World.ownsRow.lt HO.out k e).1)); clear o3 g3)
        go_ret
        exact ⟨_, rfl, by rw [FI.out, if_pos ha2]; exact O3.out, B3.out⟩
      · have ac2 : ¬ (a : Int) < (s.size : Int) := by omega
        go_wp2
        go_ret
        exact ⟨_, rfl, by rw [FI.out, if_neg ha2]; exact HO.out, HB.out⟩
end Go.Proofs.YtccjeipkljdhdaaGreatDoor
