import Derived.Test.YtccjeipkljdhdaaGreatDoorXAJ
import Derived.Test.YtccjeipkljdhdaaGreatDoorXAO
namespace Go.Proofs.YtccjeipkljdhdaaGreatDoor
open Go.RowKit
set_option linter.unusedVariables false
set_option linter.unusedSimpArgs false
theorem cap_size {s : ByteArray} (h : capP s = true) : s.size ≤ 31 := by
  unfold capP Lx.nameB at h
  simp only [Bool.and_eq_true, decide_eq_true_eq] at h
  have h2 := h.2
  unfold Lx.nameE at h2
  have e : (lst s).length = s.size := by first | exact Array.length_toList | (unfold lst; exact Array.length_toList) | simp [lst]
  split at h2
  · simp at h2
  · split at h2
    · simp at h2
    · omega
theorem cur_size {s : ByteArray} (h : curP s = true) : s.size ≤ 31 := by
  unfold curP at h
  have e : (lst s).length = s.size := by first | exact Array.length_toList | (unfold lst; exact Array.length_toList) | simp [lst]
  match hl : lst s, h with
  | [a, b, c], _ => rw [hl] at e; simp at e; omega
theorem jn_le (M : Nat) : ∀ (ws : List ByteArray), (∀ s ∈ ws, s.size ≤ M) → (jnL ws).length ≤ ws.length * (M + 1)
  | [], _ => by simp [jnL, Lib.join_nil]
  | x :: r, h => by
    have hx := h x List.mem_cons_self
    have e1 : x.data.toList.length = x.size := Array.length_toList
    have ht : ∀ (r : List ByteArray), (∀ s ∈ r, s.size ≤ M) → (Lib.joinTail [32] (r.map (·.data.toList))).length ≤ r.length * (M + 1) := by
      intro r
      induction r with
      | nil => intro _; simp [Lib.joinTail]
      | cons y t ih =>
        intro hr
        have hy := hr y List.mem_cons_self
        have e2 : y.data.toList.length = y.size := Array.length_toList
        have := ih (fun s hs => hr s (List.mem_cons_of_mem _ hs))
        unfold Lib.joinTail at this ⊢
        simp only [List.map_cons, List.flatten_cons, List.length_append, List.length_cons, List.length_nil, e2] at this ⊢
        rw [Nat.add_mul]
        omega
    have := ht r (fun s hs => h s (List.mem_cons_of_mem _ hs))
    unfold jnL
    rw [List.map_cons, Lib.join_cons, List.length_append, e1, List.length_cons, Nat.add_mul]
    omega
theorem lnL_le (k M : Nat) (hk : k < 8) (ws : List ByteArray) (h : ∀ s ∈ ws, s.size ≤ M) : (lnL k ws).length ≤ ws.length * (M + 1) + 10 := by
  have := jn_le M ws h
  have e := ln_size k hk
  have e1 : (lnA k).data.toList.length = (lnA k).size := Array.length_toList
  unfold lnL
  split
  · simp
  · simp only [List.length_append, List.length_cons, List.length_nil, e1]; omega
theorem nmLn_le (k : Nat) (hk : k < 8) (v : Int) (hv : i64 v) : (nmLn k v).length ≤ 50 := by
  have e := ln_size k hk
  have t := txA_len hv
  have := jn_le 21 [lnA k, txA v] (by
    intro s hs
    simp at hs
    rcases hs with rfl | rfl
    · omega
    · exact t)
  unfold nmLn
  simp only [List.length_append, List.length_cons, List.length_nil] at this ⊢
  omega
theorem inLn_le {p : Pg} (hN : ∀ s ∈ p.names, s.size ≤ 31) (hU : ∀ s ∈ p.curs, s.size ≤ 31) (hP : ∀ v ∈ p.pool, i64 v) (i : In) (hi : i.okP) : (inLn p i).length ≤ 100 := by
  obtain ⟨h1, h2, h3, h4, h5, h6⟩ := hi
  have tf := tab_facts i.o.toNat (by omega)
  have gs : ∀ (l : List ByteArray) (k : Nat), (∀ s ∈ l, s.size ≤ 31) → (l.getD k ⟨#[]⟩).size ≤ 31 := fun l k hl => by
    by_cases hk : k < l.length
    · exact hl _ (by simp [List.getD, hk])
    · rw [show l.getD k ⟨#[]⟩ = ⟨#[]⟩ by simp [List.getD, List.getElem?_eq_none (show l.length ≤ k by omega)]]; decide
  have n1 : i64 i.a := by
    obtain ⟨x, hx⟩ : ∃ x : Nat, i.a = x := ⟨i.a.toNat, by omega⟩
    rw [hx]; exact i64_nat (by omega)
  have n2 : i64 i.b := by
    obtain ⟨x, hx⟩ : ∃ x : Nat, i.b = x := ⟨i.b.toNat, by omega⟩
    rw [hx]; exact i64_nat (by omega)
  have f : (fstW p.names p.curs p.pool i).size ≤ 31 := by
    unfold fstW
    split
    · have : i64 (p.pool.getD i.a.toNat 0) := by
        by_cases hk : i.a.toNat < p.pool.length
        · exact hP _ (by simp [List.getD, hk])
        · rw [show p.pool.getD i.a.toNat 0 = 0 by simp [List.getD, List.getElem?_eq_none (show p.pool.length ≤ i.a.toNat by omega)]]
          exact i64_nat (k := 0) (by omega)
      have := txA_len this; omega
    split
    · exact gs _ _ hN
    split
    · exact gs _ _ hU
    split
    · rename_i e
      rw [e] at h4
      have : baA (18 : Int).toNat = 4 := rfl
      have := md_some i.a.toNat (by omega)
      omega
    · have := txA_len n1; omega
  have w := jn_le 31 (wdsA p.names p.curs p.pool i) (by
    intro s hs
    have hs := List.mem_of_mem_take hs
    simp at hs
    rcases hs with rfl | rfl | rfl
    · have := nm_size i.o.toNat (by omega); omega
    · exact f
    · have := txA_len n2; omega)
  have wl : (wdsA p.names p.curs p.pool i).length ≤ 3 := by unfold wdsA; simp; omega
  unfold inLn
  simp only [List.length_append, List.length_cons, List.length_nil]
  have : (wdsA p.names p.curs p.pool i).length * (31 + 1) ≤ 96 := by omega
  omega
theorem flat_le {α : Type} (f : α → List UInt8) (M : Nat) : ∀ (l : List α), (∀ x ∈ l, (f x).length ≤ M) → (l.flatMap f).length ≤ l.length * M
  | [], _ => by simp
  | x :: r, h => by
    have := flat_le f M r (fun y hy => h y (List.mem_cons_of_mem _ hy))
    have hx := h x List.mem_cons_self
    rw [List.flatMap_cons, List.length_append, List.length_cons, Nat.add_mul]
    omega
theorem days_le {p : Pg} (hS : ∀ s ∈ p.days, i64 s.day) (hI : ∀ s ∈ p.days, ∀ i ∈ s.code, (inLn p i).length ≤ 100) : ∀ k, k ≤ p.days.length → ((p.days.take k).flatMap (dyLn p)).length ≤ k * 50 + totN p.days k * 100
  | 0, _ => by simp
  | k + 1, h => by
    have ih := days_le hS hI k (by omega)
    have hk : k < p.days.length := by omega
    rw [flat_next _ _ _ hk, List.length_append, totN_next hk]
    have hm := sg_mem hk
    have d : (dyLn p (p.days.getD k default)).length ≤ 50 + (p.days.getD k default).code.length * 100 := by
      unfold dyLn
      rw [List.length_append]
      have := nmLn_le 7 (by omega) _ (hS _ hm)
      have := flat_le (inLn p) 100 (p.days.getD k default).code (hI _ hm)
      omega
    rw [Nat.add_mul, Nat.add_mul]
    omega
theorem sm_of_can {w : World} {p : Pg} (h : PV w p) (hc : canP p) : SmP p := by
  obtain ⟨c1, ⟨l1, l2, l3, l4, l5, l6, l7, l8⟩, ⟨d1, d2⟩, ⟨u1, u2⟩⟩ := hc
  have hN : ∀ s ∈ p.names, s.size ≤ 31 := fun s hs => cap_size (List.all_eq_true.1 l2 s hs)
  have hU : ∀ s ∈ p.curs, s.size ≤ 31 := fun s hs => cur_size (List.all_eq_true.1 l5 s hs)
  have hor := numP_hor c1
  have dl := preD_le (k := p.days.length) d1 hor.1
  have ok : ∀ s ∈ p.days, ∀ i ∈ s.code, i.okP := fun s hs i hi => by
    obtain ⟨k, hk, rfl⟩ := List.getElem_of_mem hs
    have := u1 k hk
    rw [show p.days.getD k default = p.days[k] by simp [List.getD, hk]] at this
    obtain ⟨m, hm, rfl⟩ := List.getElem_of_mem hi
    have := (this.2 m hm).2.1
    rwa [show (p.days[k]).code.getD m default = (p.days[k]).code[m] by simp [List.getD, hm]] at this
  have tot : ∀ k, k < p.days.length → (p.days.getD k default).code.length ≤ 262144 := fun k hk => by
    have mono : ∀ d k, k + d ≤ p.days.length → totN p.days k ≤ totN p.days (k + d) := by
      intro d
      induction d with
      | zero => intro k _; exact Nat.le_refl _
      | succ d ih =>
        intro k hkd
        have := ih k (by omega)
        rw [show k + (d + 1) = (k + d) + 1 by omega, totN_next (by omega)]
        omega
    have a := mono (p.days.length - (k + 1)) (k + 1) (by omega)
    rw [show k + 1 + (p.days.length - (k + 1)) = p.days.length by omega, totN_next hk] at a
    omega
  refine ⟨l1, l4, l7, by omega, fun s hs => ?_, ok, ?_⟩
  · obtain ⟨k, hk, rfl⟩ := List.getElem_of_mem hs
    have := tot k hk
    rwa [show p.days.getD k default = p.days[k] by simp [List.getD, hk]] at this
  · have t := days_le (p := p) (fun s hs => (h.days.2.2.2.1 s hs).1) (fun s hs i hi => inLn_le hN hU h.pool.2.2.2.1 i (ok s hs i hi)) p.days.length (Nat.le_refl _)
    rw [List.take_length] at t
    have a0 := lnL_le 0 31 (by omega) p.names hN
    have a1 := lnL_le 1 31 (by omega) p.curs hU
    have a2 := lnL_le 2 31 (by omega) (p.pool.map txA) (by
      intro s hs
      obtain ⟨v, hv, rfl⟩ := List.mem_map.1 hs
      have := txA_len (h.pool.2.2.2.1 v hv)
      omega)
    have a3 := nmLn_le 3 (by omega) _ h.hor
    have a4 := nmLn_le 4 (by omega) _ h.cells
    have a5 := nmLn_le 5 (by omega) _ h.slots
    have a6 := nmLn_le 6 (by omega) _ h.stack
    rw [List.length_map] at a2
    rw [len_txt]
    have dl' : p.days.length ≤ 3661 := by omega
    omega
theorem pcells {W : World} {b : Nat} {p : Pg} (h : BkP W b p.arr 27) : W.cell? ⟨b, 0, none⟩ = some (.slice p.na p.names.length p.nc) ∧ W.cell? ⟨b, 1, none⟩ = some (.slice p.ua p.curs.length p.uc) ∧ W.cell? ⟨b, 2, none⟩ = some (.slice p.pa p.pool.length p.pc) ∧ W.cell? ⟨b, 3, none⟩ = some (.int .i64 p.hor) ∧ W.cell? ⟨b, 4, none⟩ = some (.int .i64 p.cells) ∧ W.cell? ⟨b, 5, none⟩ = some (.int .i64 p.slots) ∧ W.cell? ⟨b, 6, none⟩ = some (.int .i64 p.stack) ∧ W.cell? ⟨b, 7, none⟩ = some (.slice p.da p.days.length p.dc) := ⟨h.cell 0, h.cell 1, h.cell 2, h.cell 3, h.cell 4, h.cell 5, h.cell 6, h.cell 7⟩
set_option maxHeartbeats 4000000 in
set_option maxRecDepth 100000 in
theorem print_any {w : World} {p : Pg} (h : PV w p) (hR : Rws w) (hP : Pows w) (hM : Mds w) (hG : LnG w) :
    Calls Tryz.prog 9 #[p.agg] w fun e w' => e = .returned (.tuple #[.string (if canP p then ⟨(txtP p).toArray⟩ else ⟨#[]⟩), .int .i64 (if canP p then 0 else 121)]) ∧ Below w.heap.size w w' := by
  have A1 := allocBP w (.cells p.arr 27)
  have X1 : BkP (w.alloc (.cells p.arr 27)) w.heap.size p.arr 27 := heapN w _
  have KC := Lib.hid (fun W (b : Below w.heap.size w W) => canon_any (h.later b) (hR.below b))
  by_cases hc : canP p
  · have KT := Lib.hid (fun W (b : Below w.heap.size w W) => textOf_any (h.later b) (sm_of_can h hc) (hR.below b) (hP.later b) (hM.later b) (hG.later (Nat.le_refl _) b b.size))
    simp only [if_pos hc] at KC ⊢
    generalize txtP p = tx at *
    clear h hR hP hM hG hc
    have CE := Lib.hid (p := ∀ W, Below (w.alloc (.cells p.arr 27)).heap.size (w.alloc (.cells p.arr 27)) W → BkP W w.heap.size p.arr 27) (fun W b => X1.grown (gr_below b none) (fun e => by cases e))
    have B1 := Lib.hid A1
    obtain ⟨c0, c1, c2, c3, c4, c5, c6, c7⟩ := pcells X1
    clear A1 X1
    unfold Pg.arr at *
    unfold Pg.agg at *
    generalize hW1 : w.alloc _ = W1 at *
    go_enter Tryz.func9, Tryz.ntmps9
    go_wp2_with (first
      | (go_at_call 10; refine (KC.out _ B1.out).mono ?_; rintro e w2 ⟨rfl, b1⟩; have B2 := Lib.hid (B1.out.trans (b1.mono B1.out.size)); have X2 := CE.out _ b1; clear b1 c0 c1 c2 c3 c4 c5 c6 c7; obtain ⟨c0, c1, c2, c3, c4, c5, c6, c7⟩ := pcells X2; clear X2)
      | (go_at_call 21; refine (KT.out _ B2.out).mono ?_; rintro e w3 ⟨rfl, b1⟩; have B3 := Lib.hid (B2.out.trans (b1.mono B2.out.size)); clear b1))
    go_ret2
    exact ⟨rfl, B3.out⟩
  · simp only [if_neg hc] at KC ⊢
    clear h hR hP hM hG hc
    have B1 := Lib.hid A1
    obtain ⟨c0, c1, c2, c3, c4, c5, c6, c7⟩ := pcells X1
    clear A1 X1
    unfold Pg.arr at *
    unfold Pg.agg at *
    generalize hW1 : w.alloc _ = W1 at *
    go_enter Tryz.func9, Tryz.ntmps9
    go_wp2_with (first
      | (go_at_call 10; refine (KC.out _ B1.out).mono ?_; rintro e w2 ⟨rfl, b1⟩; have B2 := Lib.hid (B1.out.trans (b1.mono B1.out.size)); clear b1))
    go_ret2
    exact ⟨rfl, B2.out⟩
end Go.Proofs.YtccjeipkljdhdaaGreatDoor
