/-
  WALKS: step, kind by kind (made by wip/gen/gen_step.py).
-/
import Derived.Test.YtnoimmjijkgjaaaWPX4
namespace Go.Proofs.Ytnoimmjijkgjaaa
open Go.RowKit
set_option linter.unusedVariables false
set_option linter.unusedSimpArgs false

theorem keep_alloc {w w2 : World} {p p' : Nat} {o : Obj} (g : (w.alloc o).grownBy w2 none) : Keep w w2 (fun x => x = p ∨ x = p') :=
  (Keep.of (World.grownBy_alloc w o none) (fun _ _ e => by cases e)).step g (fun x _ e => by cases e)
theorem po_heap {w w1 : World} {B q p : Nat} {a : Option Addr} {n cap : Nat} {xs : List Int} {k p' : Nat} {a' : Option Addr} {cap' : Nat} {X : World → Prop} (h : PO w B q p a n cap xs k p' a' cap' X) (g : w.grownBy w1 none) : PO w1 B q p a n cap xs k p' a' cap' X := h.later g
theorem bl_nil (w : World) : BL w none 0 [] := ⟨rfl, by omega, by simp, .inl rfl⟩

set_option maxRecDepth 100000 in
set_option maxHeartbeats 1500000 in
theorem step_take_neg (B q p : Nat) (a : Option Addr) (n cap : Nat) (xs : List Int) (k p' : Nat) (a' : Option Addr) (cap' : Nat) (X Y : World → Prop) (lim : Int) (nn : Int) (w : World) (h : PO w B q p a n cap xs k p' a' cap' X) (hm : nn < 0) (HP : PutC B q p a n cap xs p' a' cap' X Y) (hBw : B ≤ w.heap.size) :
    Calls Try.prog 9 #[.pointer (some ⟨q, 0, none⟩), .agg #[.int .i64 4, .int .u64 lim, .int .i64 nn]] w fun e w' => e = .returned (.bool true) ∧ StepQ w w' B q p a n cap xs p' a' cap' Y := by
  have HA := Lib.hid (h.alloc (.cells #[.int .i64 4, .int .u64 lim, .int .i64 nn] 41))
  have KA := Lib.hid (keep_alloc (p := p) (p' := p') (gr_refl none (w.alloc (.cells #[.int .i64 4, .int .u64 lim, .int .i64 nn] 41))))
  have HH := Lib.hid h
  have hp := h.rp.lt
  have hp' := h.rr.lt
  have q0 : (w.alloc (.cells #[.int .i64 4, .int .u64 lim, .int .i64 nn] 41)).cell? ⟨q, 0, none⟩ = some (.pointer (some ⟨p, 0, none⟩)) := HA.out.c0
  have q1 : (w.alloc (.cells #[.int .i64 4, .int .u64 lim, .int .i64 nn] 41)).cell? ⟨q, 1, none⟩ = some (.pointer (some ⟨p', 0, none⟩)) := HA.out.c1
  have KU := Lib.hid (fun W => take_neg B p nn W hm)
  have KR := Lib.hid (fun W => takeR_neg p' nn W hm)
  have KS := Lib.hid (fun W => same_any none none 0 0 0 0 [] [] W (bl_nil W) (bl_nil W))
  rw [decide_eq_true rfl] at KS
  clear h
  go_enter Try.func9, Try.ntmps9
  go_wp2
  go_region_held3 (fun w' => w'.cell? ⟨q, 0, none⟩ = some (.pointer (some ⟨p, 0, none⟩)) ∧ w'.cell? ⟨w.heap.size, 2, none⟩ = some (.int .i64 nn))
    (refine ⟨?_, ?_⟩ <;> first | assumption | (go_simp; done))
    (first
    | (go_at_call 11; refine (KU.out _).mono ?_; rintro e w1 ⟨rfl, h1⟩; subst h1))
  go_wp2
  go_region_held3 (fun w' => w'.cell? ⟨q, 1, none⟩ = some (.pointer (some ⟨p', 0, none⟩)) ∧ w'.cell? ⟨w.heap.size, 2, none⟩ = some (.int .i64 nn))
    (refine ⟨?_, ?_⟩ <;> first | assumption | (go_simp; done))
    (first
    | (go_at_call 22; refine (KR.out _).mono ?_; rintro e w2 ⟨rfl, h1⟩; subst h1))
  go_wp2_with (first
    | (go_at_call 12; refine (KS.out _).mono ?_; rintro e w3 ⟨rfl, i3, rfl⟩)
    | (go_at_call 23; refine (HP k k w _ w.heap.size none 0 0 [] HH.out (by exact ⟨KA.out.os, KA.out.tape, KA.out.output, KA.out.size, KA.out.block⟩) (by exact HA.out.later ⟨rfl, rfl, rfl, Nat.le_refl _, fun _ _ _ => rfl⟩) (own_nil _ _) (Nat.le_refl _) (by exact Nat.le_of_lt (show w.heap.size < (w.heap.push _).size by simp)) (by exact Nat.le_trans hBw (Nat.le_of_lt (show w.heap.size < (w.heap.push _).size by simp))) (Nat.zero_le _) (by simp)).mono ?_; rintro e w4 ⟨rfl, p4, b4⟩; have P4 := Lib.hid p4; have B4 := Lib.hid b4; clear p4 b4))
  go_ret
  exact ⟨by first | rfl | simp, stepQ_put KA.out HA.out P4.out ⟨B4.out.os, B4.out.tape, B4.out.output, B4.out.size, B4.out.block⟩ hBw⟩


set_option maxRecDepth 100000 in
set_option maxHeartbeats 1500000 in
theorem step_take_short (B q p : Nat) (a : Option Addr) (n cap : Nat) (xs : List Int) (k p' : Nat) (a' : Option Addr) (cap' : Nat) (X Y : World → Prop) (lim : Int) (nn : Int) (w : World) (h : PO w B q p a n cap xs k p' a' cap' X) (hm : ((n - k : Nat) : Int) < nn) (HP : PutC B q p a n cap xs p' a' cap' X Y) (hBw : B ≤ w.heap.size) :
    Calls Try.prog 9 #[.pointer (some ⟨q, 0, none⟩), .agg #[.int .i64 4, .int .u64 lim, .int .i64 nn]] w fun e w' => e = .returned (.bool true) ∧ StepQ w w' B q p a n cap xs p' a' cap' Y := by
  have HA := Lib.hid (h.alloc (.cells #[.int .i64 4, .int .u64 lim, .int .i64 nn] 41))
  have KA := Lib.hid (keep_alloc (p := p) (p' := p') (gr_refl none (w.alloc (.cells #[.int .i64 4, .int .u64 lim, .int .i64 nn] 41))))
  have HH := Lib.hid h
  have hp := h.rp.lt
  have hp' := h.rr.lt
  have q0 : (w.alloc (.cells #[.int .i64 4, .int .u64 lim, .int .i64 nn] 41)).cell? ⟨q, 0, none⟩ = some (.pointer (some ⟨p, 0, none⟩)) := HA.out.c0
  have q1 : (w.alloc (.cells #[.int .i64 4, .int .u64 lim, .int .i64 nn] 41)).cell? ⟨q, 1, none⟩ = some (.pointer (some ⟨p', 0, none⟩)) := HA.out.c1
  have KU := Lib.hid (fun W (g : RB W B p a n cap xs k) => take_shortq B p a n cap xs k nn W g hm)
  have KR := Lib.hid (fun W (g : RE W B p' a' n cap' xs k) => takeR_short B p' a' n cap' xs k nn W g hm)
  have KS := Lib.hid (fun W => same_any none none 0 0 0 0 [] [] W (bl_nil W) (bl_nil W))
  rw [decide_eq_true rfl] at KS
  clear h
  go_enter Try.func9, Try.ntmps9
  go_wp2
  go_region_held3 (fun w' => w'.cell? ⟨q, 0, none⟩ = some (.pointer (some ⟨p, 0, none⟩)) ∧ w'.cell? ⟨w.heap.size, 2, none⟩ = some (.int .i64 nn))
    (refine ⟨?_, ?_⟩ <;> first | assumption | (go_simp; done))
    (first
    | (go_at_call 11; refine (KU.out _ (by exact HA.out.rp.blk rfl (fun _ _ => rfl))).mono ?_; rintro e w1 ⟨rfl, i1, rfl⟩))
  go_wp2
  go_region_held3 (fun w' => w'.cell? ⟨q, 1, none⟩ = some (.pointer (some ⟨p', 0, none⟩)) ∧ w'.cell? ⟨w.heap.size, 2, none⟩ = some (.int .i64 nn))
    (refine ⟨?_, ?_⟩ <;> first | assumption | (go_simp; done))
    (first
    | (go_at_call 22; refine (KR.out _ (by exact HA.out.rr.blk rfl (fun _ _ => rfl))).mono ?_; rintro e w2 ⟨rfl, i2, rfl⟩))
  go_wp2_with (first
    | (go_at_call 12; refine (KS.out _).mono ?_; rintro e w3 ⟨rfl, i3, rfl⟩)
    | (go_at_call 23; refine (HP k k w _ w.heap.size none 0 0 [] HH.out (by exact ⟨KA.out.os, KA.out.tape, KA.out.output, KA.out.size, KA.out.block⟩) (by exact HA.out.later ⟨rfl, rfl, rfl, Nat.le_refl _, fun _ _ _ => rfl⟩) (own_nil _ _) (Nat.le_refl _) (by exact Nat.le_of_lt (show w.heap.size < (w.heap.push _).size by simp)) (by exact Nat.le_trans hBw (Nat.le_of_lt (show w.heap.size < (w.heap.push _).size by simp))) (Nat.zero_le _) (by simp)).mono ?_; rintro e w4 ⟨rfl, p4, b4⟩; have P4 := Lib.hid p4; have B4 := Lib.hid b4; clear p4 b4))
  go_ret
  exact ⟨by first | rfl | simp, stepQ_put KA.out HA.out P4.out ⟨B4.out.os, B4.out.tape, B4.out.output, B4.out.size, B4.out.block⟩ hBw⟩


/-- Any step. -/
theorem step_any (B q p : Nat) (a : Option Addr) (n cap : Nat) (xs : List Int) (k p' : Nat) (a' : Option Addr) (cap' : Nat) (X Y : World → Prop) (f : Op3) (w : World) (h : PO w B q p a n cap xs k p' a' cap' X) (hf : f.wf) (hn : n ≤ 140737488354000) (HP : PutC B q p a n cap xs p' a' cap' X Y) (hBw : B ≤ w.heap.size) (hXY : ∀ w, X w → Y w) (SY : StX Y p p') :
    Calls Try.prog 9 #[.pointer (some ⟨q, 0, none⟩), .agg #[.int .i64 f.k, .int .u64 f.l, .int .i64 f.n]] w fun e w' => e = .returned (.bool true) ∧ StepQ w w' B q p a n cap xs p' a' cap' Y := by
  obtain ⟨fk, fl, fn⟩ := f
  obtain ⟨lim, e, hl⟩ := u64_nat' hf.2.1
  have hnn : -9223372036854775808 ≤ fn ∧ fn ≤ 9223372036854775807 := by simpa [Lit.wf, IntKind.min, IntKind.max, IntKind.bits, IntKind.signed] using hf.2.2
  simp only at e ⊢
  by_cases k1 : fk = 1
  · subst k1 e; exact (step_uint B q p a n cap xs k p' a' cap' X lim fn w h).mono (fun e w' ⟨he, hs⟩ => ⟨he, hs.toQ hBw hXY SY⟩)
  by_cases k2 : fk = 2
  · subst k2; exact (step_int B q p a n cap xs k p' a' cap' X fl fn w h).mono (fun e w' ⟨he, hs⟩ => ⟨he, hs.toQ hBw hXY SY⟩)
  by_cases k5 : fk = 5
  · subst k5; exact (step_place B q p a n cap xs k p' a' cap' X fl fn w h).mono (fun e w' ⟨he, hs⟩ => ⟨he, hs.toQ hBw hXY SY⟩)
  by_cases k6 : fk = 6
  · subst k6; exact (step_left B q p a n cap xs k p' a' cap' X fl fn w h).mono (fun e w' ⟨he, hs⟩ => ⟨he, hs.toQ hBw hXY SY⟩)
  by_cases k4 : fk = 4
  · subst k4
    by_cases s1 : fn < 0
    · exact step_take_neg B q p a n cap xs k p' a' cap' X Y fl fn w h s1 HP hBw
    · by_cases s2 : ((n - k : Nat) : Int) < fn
      · exact step_take_short B q p a n cap xs k p' a' cap' X Y fl fn w h s2 HP hBw
      · obtain ⟨m, rfl⟩ : ∃ m : Nat, fn = (m : Int) := ⟨fn.toNat, by omega⟩
        have hk := h.rp.le
        exact step_take_ok B q p a n cap xs k p' a' cap' X Y fl m w h (by omega) hn HP hBw
  by_cases k3 : fk = 3
  · subst k3
    by_cases s1 : fn < 0
    · exact (step_text_neg B q p a n cap xs k p' a' cap' X fl fn w h s1).mono (fun e w' ⟨he, hs⟩ => ⟨he, hs.toQ hBw hXY SY⟩)
    · obtain ⟨m, rfl⟩ : ∃ m : Nat, fn = (m : Int) := ⟨fn.toNat, by omega⟩
      have hb : ∀ c ∈ xs.drop k, 0 ≤ c ∧ c ≤ 255 := fun c hc => h.rp.byte c (List.mem_of_mem_drop hc)
      by_cases s2 : (rd (xs.drop k)).2.2 = 0
      · obtain ⟨_, r2, r3, r4, r5⟩ := rd_only hb s2
        rw [List.length_drop, h.rp.len] at r4
        by_cases s3 : m < (rd (xs.drop k)).1
        · exact (step_text_bad B q p a n cap xs k p' a' cap' X fl m 42 w h (by omega) (by unfold uR; simp [s2, s3]) (by decide)).mono (fun e w' ⟨he, hs⟩ => ⟨he, hs.toQ hBw hXY SY⟩)
        · have hu : uR (xs.drop k) m = ((rd (xs.drop k)).1, 0, (rd (xs.drop k)).2.1) := by unfold uR; simp [s2]; omega
          have hk := h.rp.le
          by_cases s4 : n - (k + (rd (xs.drop k)).2.1) < (rd (xs.drop k)).1
          · exact (step_text_short B q p a n cap xs k p' a' cap' X fl m _ _ w h (by omega) hu r3 (by omega) s4 (by omega)).mono (fun e w' ⟨he, hs⟩ => ⟨he, hs.toQ hBw hXY SY⟩)
          · obtain ⟨t, ht⟩ := mk_text ((xs.drop (k + (rd (xs.drop k)).2.1)).take (rd (xs.drop k)).1) (part_byte h.rp.byte _ _)
            have hts : t.size = (rd (xs.drop k)).1 := by
              have := congrArg List.length ht
              rw [sb_len] at this
              simp [h.rp.len] at this
              omega
            rw [← hts] at hu ht s4
            exact (step_text_ok B q p a n cap xs k p' a' cap' X fl m _ t w h (by omega) hu r3 (by omega) ht.symm).mono (fun e w' ⟨he, hs⟩ => ⟨he, hs.toQ hBw hXY SY⟩)
      · exact (step_text_bad B q p a n cap xs k p' a' cap' X fl m (rd (xs.drop k)).2.2 w h (by omega) (by unfold uR; simp [s2]) s2).mono (fun e w' ⟨he, hs⟩ => ⟨he, hs.toQ hBw hXY SY⟩)
  exact (step_other B q p a n cap xs k p' a' cap' X fk fl fn w h k1 k2 k3 k4 k5 k6).mono (fun e w' ⟨he, hs⟩ => ⟨he, hs.toQ hBw hXY SY⟩)
end Go.Proofs.Ytnoimmjijkgjaaa
