/-
  ITEMS: their bytes; the walk of reads.
-/
import Derived.Test.YtfgmgcllplgpnaaWOct7
namespace Go.Proofs.Ytfgmgcllplgpnaa
open Go.RowKit
set_option linter.unusedVariables false
set_option linter.unusedSimpArgs false

/-- What kind an item is of. -/
def kd (k : Int) : Nat := if bits .and .i64 k 3 = 0 then 0 else if bits .and .i64 k 3 = 1 then 1 else 2
theorem kd0 {k : Int} (h : kd k = 0) : bits .and .i64 k 3 = 0 := by unfold kd at h; split at h; assumption; split at h <;> omega
theorem kd1 {k : Int} (h : kd k = 1) : bits .and .i64 k 3 = 1 := by unfold kd at h; split at h; omega; split at h; assumption; omega
theorem kd2 {k : Int} (h : kd k = 2) : (bits .and .i64 k 3 == 0) = false ∧ (bits .and .i64 k 3 == 1) = false := by
  unfold kd at h; split at h; omega; split at h; omega; simp; exact ⟨by assumption, by assumption⟩
theorem kd_or (k : Int) : kd k = 0 ∨ kd k = 1 ∨ kd k = 2 := by unfold kd; split; omega; split <;> omega
/-- An item's bytes. -/
def itB (f : It4) : List Int := if kd f.k = 0 then vl f.x.toNat else if kd f.k = 1 then vl (zz f.y) else tx f.s
theorem it_x {f : It4} (h : f.wf) : ∃ x : Nat, f.x = (x : Int) ∧ x < 18446744073709551616 := u64_nat' h.2.1
theorem it_y {f : It4} (h : f.wf) : -9223372036854775808 ≤ f.y ∧ f.y ≤ 9223372036854775807 := by simpa [Lit.wf, IntKind.min, IntKind.max, IntKind.bits, IntKind.signed] using h.2.2.1
theorem itB_byte (f : It4) : ∀ c ∈ itB f, 0 ≤ c ∧ c ≤ 255 := by
  unfold itB
  split
  · exact vl_byte _
  · split
    · exact vl_byte _
    · intro c hc
      rcases List.mem_append.1 hc with q | q
      · exact vl_byte _ c q
      · exact sb_byte _ c q
theorem itB_pos (f : It4) : 1 ≤ (itB f).length := by
  unfold itB
  split
  · exact vl_pos _
  · split
    · exact vl_pos _
    · have := vl_pos f.s.size; simp [tx]; omega
theorem itB_len {f : It4} (h : f.wf) (hs : f.s.size ≤ 1048576) : (itB f).length ≤ 1048586 := by
  unfold itB
  split
  · obtain ⟨x, e, hx⟩ := it_x h
    rw [e]; have := vl_len10 hx; simp; omega
  · split
    · have := vl_len10 (zz_lt (it_y h)); omega
    · have := vl_len10 (x := f.s.size) (by omega)
      simp [tx, sb_len]; omega
/-- The box that an item is handed in. -/
def BoxI (W : World) (q : Nat) (f : It4) : Prop := W.cell? ⟨q, 0, none⟩ = some (.int .i64 f.k) ∧ W.cell? ⟨q, 1, none⟩ = some (.int .u64 f.x) ∧ W.cell? ⟨q, 2, none⟩ = some (.int .i64 f.y) ∧ W.cell? ⟨q, 3, none⟩ = some (.string f.s)
theorem str_self (s : ByteArray) : (s.data.toList == s.data.toList) = true := by simp
theorem rb_alloc {w : World} {B p : Nat} {a : Option Addr} {n cap : Nat} {xs : List Int} {k : Nat} (h : RB w B p a n cap xs k) (o : Obj) : RB (w.alloc o) B p a n cap xs k := h.later (World.grownBy_alloc w o none)
theorem gr_alloc {p : Nat} {w w' : World} {o : Obj} (h : Gr p (w.alloc o) w') (hp : p < w.heap.size) : Gr p w w' := gr_trans (World.grownBy_alloc w o (some p)) h
theorem box_gr {w w' : World} {p : Nat} {o : Obj} (h : Gr p (w.alloc o) w') (hp : p < w.heap.size) (j : Nat) : w'.cell? ⟨w.heap.size, j, none⟩ = (w.alloc o).cell? ⟨w.heap.size, j, none⟩ :=
  World.cell?_of_block (a := ⟨w.heap.size, j, none⟩) (h.block w.heap.size (by simp) (fun e => by injection e with e; omega))

set_option maxRecDepth 100000 in
set_option maxHeartbeats 4000000 in
theorem reads_ok (B p : Nat) (a : Option Addr) (n cap : Nat) (xs : List Int) (k : Nat) (f : It4) (t : List Int) (w : World) (h : RB w B p a n cap xs k) (hf : f.wf) (hs : f.s.size ≤ 1048576) (hx : xs.drop k = itB f ++ t) :
    Calls Try.prog 26 #[.pointer (some ⟨p, 0, none⟩), .agg #[.int .i64 f.k, .int .u64 f.x, .int .i64 f.y, .string f.s]] w fun e w' => e = .returned (.bool true) ∧ RB w' B p a n cap xs (k + (itB f).length) ∧ Gr p w w' := by
  have HA := Lib.hid (rb_alloc h (.cells #[.int .i64 f.k, .int .u64 f.x, .int .i64 f.y, .string f.s] 53))
  have hp := h.lt
  have LN := h.len
  have hn : k + (itB f).length ≤ n := by
    have := congrArg List.length hx
    have hle := h.le
    simp [LN] at this
    omega
  clear h
  rcases kd_or f.k with q | q | q
  · obtain ⟨x, ex, hxl⟩ := it_x hf
    have e0 := kd0 q
    have eB : itB f = vl x := by unfold itB; rw [if_pos q, ex]; simp
    rw [eB] at hx hn ⊢
    have K := Lib.hid (fun W (g : RB W B p a n cap xs k) => uint_any B p a n cap xs k x W g)
    rw [hx, uR_more x hxl t x (Nat.le_refl _)] at K
    simp only at K
    have BG := Lib.hid (p := ∀ w' : World, Gr p (w.alloc (.cells #[.int .i64 f.k, .int .u64 f.x, .int .i64 f.y, .string f.s] 53)) w' → w'.cell? ⟨w.heap.size, 1, none⟩ = some (.int .u64 (x : Int))) (fun w' g => by rw [box_gr g hp, ← ex]; simp)
    rw [ex] at HA BG ⊢
    generalize (vl x).length = m at *
    clear hx eB
    go_enter Try.func26, Try.ntmps26
    go_wp2_with (go_at_call 11; refine (K.out _ HA.out).mono ?_; rintro e w1 ⟨rfl, h1, h2⟩; have c1 := BG.out _ h2; have R1 := Lib.hid h1; have G1 := Lib.hid (gr_alloc h2 hp); clear h1 h2)
    go_ret
    exact ⟨by first | rfl | simp, R1.out, G1.out⟩
  · have hy := it_y hf
    have e1 := kd1 q
    have eB : itB f = vl (zz f.y) := by unfold itB; rw [if_neg (by omega), if_pos q]
    rw [eB] at hx hn ⊢
    have K := Lib.hid (fun W (g : RB W B p a n cap xs k) => int_any B p a n cap xs k W g)
    rw [hx, uR_more (zz f.y) (zz_lt hy) t _ (by have := zz_lt hy; omega)] at K
    simp only [uz_zz] at K
    have BG := Lib.hid (p := ∀ w' : World, Gr p (w.alloc (.cells #[.int .i64 f.k, .int .u64 f.x, .int .i64 f.y, .string f.s] 53)) w' → w'.cell? ⟨w.heap.size, 2, none⟩ = some (.int .i64 f.y)) (fun w' g => by rw [box_gr g hp]; simp)
    generalize (vl (zz f.y)).length = m at *
    clear hx eB
    go_enter Try.func26, Try.ntmps26
    go_wp2_with (go_at_call 16; refine (K.out _ HA.out).mono ?_; rintro e w1 ⟨rfl, h1, h2⟩; have c1 := BG.out _ h2; have R1 := Lib.hid h1; have G1 := Lib.hid (gr_alloc h2 hp); clear h1 h2)
    go_ret
    exact ⟨by first | rfl | simp, R1.out, G1.out⟩
  · obtain ⟨e1, e2⟩ := kd2 q
    have eB : itB f = tx f.s := by unfold itB; rw [if_neg (by omega), if_neg (by omega)]
    have eL : (tx f.s).length = (vl f.s.size).length + f.s.size := by simp [tx, sb_len]
    rw [eB] at hx hn ⊢
    have hu : uR (xs.drop k) f.s.size = (f.s.size, 0, (vl f.s.size).length) := by
      rw [hx, tx, List.append_assoc]; exact uR_more _ (by omega) _ _ (Nat.le_refl _)
    have ht : (xs.drop (k + (vl f.s.size).length)).take f.s.size = sb f.s := by
      rw [← List.drop_drop, hx, tx, List.append_assoc, List.drop_left, ← sb_len f.s, List.take_left]
    have K := Lib.hid (fun W (g : RB W B p a n cap xs k) => text_ok B p a n cap xs k f.s.size (vl f.s.size).length f.s W g (by omega) hu (by omega) ht)
    rw [Nat.add_assoc, ← eL] at K
    have BG := Lib.hid (p := ∀ w' : World, Gr p (w.alloc (.cells #[.int .i64 f.k, .int .u64 f.x, .int .i64 f.y, .string f.s] 53)) w' → w'.cell? ⟨w.heap.size, 3, none⟩ = some (.string f.s)) (fun w' g => by rw [box_gr g hp]; simp)
    have ss := str_self f.s
    generalize (tx f.s).length = m at *
    clear hx eB hu ht eL
    go_enter Try.func26, Try.ntmps26
    go_wp2_with (go_at_call 19; refine (K.out _ HA.out).mono ?_; rintro e w1 ⟨rfl, h1, h2⟩; have c1 := BG.out _ h2; have R1 := Lib.hid h1; have G1 := Lib.hid (gr_alloc h2 hp); clear h1 h2)
    go_ret
    exact ⟨by first | rfl | simp, R1.out, G1.out⟩

set_option maxRecDepth 100000 in
set_option maxHeartbeats 4000000 in
theorem reads_cut (B p : Nat) (a : Option Addr) (n cap : Nat) (xs : List Int) (k : Nat) (f : It4) (j : Nat) (w : World) (h : RB w B p a n cap xs k) (hf : f.wf) (hs : f.s.size ≤ 1048576) (hx : xs.drop k = (itB f).take j) (hj : j < (itB f).length) :
    Calls Try.prog 26 #[.pointer (some ⟨p, 0, none⟩), .agg #[.int .i64 f.k, .int .u64 f.x, .int .i64 f.y, .string f.s]] w fun e w' => e = .returned (.bool false) ∧ RB w' B p a n cap xs k ∧ Gr p w w' := by
  have HA := Lib.hid (rb_alloc h (.cells #[.int .i64 f.k, .int .u64 f.x, .int .i64 f.y, .string f.s] 53))
  have hp := h.lt
  have LN := h.len
  have hle := h.le
  clear h
  rcases kd_or f.k with q | q | q
  · obtain ⟨x, ex, hxl⟩ := it_x hf
    have e0 := kd0 q
    have eB : itB f = vl x := by unfold itB; rw [if_pos q, ex]; simp
    rw [eB] at hx hj
    have K := Lib.hid (fun W (g : RB W B p a n cap xs k) => uint_any B p a n cap xs k x W g)
    rw [hx, uR_cut hxl hj] at K
    simp only [Nat.add_zero] at K
    rw [ex] at HA ⊢
    clear hx eB
    go_enter Try.func26, Try.ntmps26
    go_wp2_with (go_at_call 11; refine (K.out _ HA.out).mono ?_; rintro e w1 ⟨rfl, h1, h2⟩; have R1 := Lib.hid h1; have G1 := Lib.hid (gr_alloc h2 hp); clear h1 h2)
    go_ret
    exact ⟨by first | rfl | simp, R1.out, G1.out⟩
  · have hy := it_y hf
    have e1 := kd1 q
    have eB : itB f = vl (zz f.y) := by unfold itB; rw [if_neg (by omega), if_pos q]
    rw [eB] at hx hj
    have K := Lib.hid (fun W (g : RB W B p a n cap xs k) => int_any B p a n cap xs k W g)
    rw [hx, uR_cut (zz_lt hy) hj] at K
    simp only [Nat.add_zero] at K
    clear hx eB
    go_enter Try.func26, Try.ntmps26
    go_wp2_with (go_at_call 16; refine (K.out _ HA.out).mono ?_; rintro e w1 ⟨rfl, h1, h2⟩; have R1 := Lib.hid h1; have G1 := Lib.hid (gr_alloc h2 hp); clear h1 h2)
    go_ret
    exact ⟨by first | rfl | simp, R1.out, G1.out⟩
  · obtain ⟨e1, e2⟩ := kd2 q
    have eB : itB f = tx f.s := by unfold itB; rw [if_neg (by omega), if_neg (by omega)]
    rw [eB] at hx hj
    have eL : (tx f.s).length = (vl f.s.size).length + f.s.size := by simp [tx, sb_len]
    have K : RowKit.Hid (∀ W, RB W B p a n cap xs k → Calls Try.prog 19 #[.pointer (some ⟨p, 0, none⟩), .int .i64 (f.s.size : Int)] W fun e w' => e = .returned (.tuple #[.string ⟨#[]⟩, .int .i64 41]) ∧ RB w' B p a n cap xs k ∧ Gr p W w') := by
      intro W g
      by_cases c : j < (vl f.s.size).length
      · refine text_bad B p a n cap xs k f.s.size 41 W g (by omega) ?_ (by omega)
        rw [hx, tx, List.take_append_of_le_length (by omega)]
        exact uR_cut (by omega) c _
      · have hu : uR (xs.drop k) f.s.size = (f.s.size, 0, (vl f.s.size).length) := by
          rw [hx, tx, List.take_append]
          rw [List.take_of_length_le (by omega)]
          exact uR_more _ (by omega) _ _ (Nat.le_refl _)
        refine text_short B p a n cap xs k f.s.size f.s.size _ W g (by omega) hu ?_ (by omega)
        have := congrArg List.length hx
        simp [LN] at this
        omega
    clear hx eB eL hj
    go_enter Try.func26, Try.ntmps26
    go_wp2_with (go_at_call 19; refine (K.out _ HA.out).mono ?_; rintro e w1 ⟨rfl, h1, h2⟩; have R1 := Lib.hid h1; have G1 := Lib.hid (gr_alloc h2 hp); clear h1 h2)
    go_ret
    exact ⟨by first | rfl | simp, R1.out, G1.out⟩
end Go.Proofs.Ytfgmgcllplgpnaa
