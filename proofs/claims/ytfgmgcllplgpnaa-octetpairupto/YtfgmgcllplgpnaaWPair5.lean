/-
  WALKS: step, kind by kind (made by wip/gen/gen_step.py).
-/
import Derived.Test.YtfgmgcllplgpnaaWPair4
namespace Go.Proofs.Ytfgmgcllplgpnaa
open Go.RowKit
set_option linter.unusedVariables false
set_option linter.unusedSimpArgs false

theorem stepP_put0 {w w2 w3 : World} {B q p : Nat} {a : Option Addr} {n cap : Nat} {xs : List Int} {k p' : Nat} {a' : Option Addr} {cap' : Nat} {L : Value} {c : Nat} {o : Obj} {v L' : Value} (h : PO (w.alloc o) B q p a n cap xs k p' a' cap' L c) (g : (w.alloc o).grownBy w2 none) (P : PutP w2 w3 B q L v (c + 2) L') (hv : ∀ x, v.ownBlock = some x → (w.alloc o).heap.size ≤ x) : StepP w w3 B q p a n cap xs p' a' cap' L c :=
  stepP_put (r := none) h (gr_below (r := none) g (some p)) (h.rp.later g) (gr_refl _ _) (h.rr.later g) P hv
theorem PO.heap {w w1 : World} {B q p : Nat} {a : Option Addr} {n cap : Nat} {xs : List Int} {k p' : Nat} {a' : Option Addr} {cap' : Nat} {L : Value} {c : Nat} (h : PO w B q p a n cap xs k p' a' cap' L c) (e : w1.heap = w.heap) : PO w1 B q p a n cap xs k p' a' cap' L c := by
  obtain ⟨ws, ho⟩ := h.bk.own
  exact ⟨(World.cell?_of_block (a := ⟨q, 0, none⟩) (by rw [e])).trans h.c0, (World.cell?_of_block (a := ⟨q, 1, none⟩) (by rw [e])).trans h.c1, h.bk.blk (by rw [e]) (fun g hg => by rw [e]), h.rp.blk (by rw [e]) (fun g hg => by rw [e]), h.rr.blk (by rw [e]) (fun g hg => by rw [e])⟩
theorem bl_nil (w : World) : BL w none 0 [] := ⟨rfl, by omega, by simp, .inl rfl⟩

set_option maxRecDepth 100000 in
set_option maxHeartbeats 1500000 in
theorem step_take_neg (B q p : Nat) (a : Option Addr) (n cap : Nat) (xs : List Int) (k p' : Nat) (a' : Option Addr) (cap' : Nat) (L : Value) (c : Nat) (lim : Int) (nn : Int) (w : World) (h : PO w B q p a n cap xs k p' a' cap' L c) (hm : nn < 0) (hc : c ≤ 1000000000) (hBw : B ≤ w.heap.size) :
    Calls Try.prog 28 #[.pointer (some ⟨q, 0, none⟩), .agg #[.int .i64 4, .int .u64 lim, .int .i64 nn]] w fun e w' => e = .returned (.bool true) ∧ StepP w w' B q p a n cap xs p' a' cap' L c := by
  have HA := Lib.hid (h.alloc (.cells #[.int .i64 4, .int .u64 lim, .int .i64 nn] 41))
  have HH := Lib.hid h
  have hp := h.rp.lt
  have hp' := h.rr.lt
  have q0 : (w.alloc (.cells #[.int .i64 4, .int .u64 lim, .int .i64 nn] 41)).cell? ⟨q, 0, none⟩ = some (.pointer (some ⟨p, 0, none⟩)) := HA.out.c0
  have q1 : (w.alloc (.cells #[.int .i64 4, .int .u64 lim, .int .i64 nn] 41)).cell? ⟨q, 1, none⟩ = some (.pointer (some ⟨p', 0, none⟩)) := HA.out.c1
  have KU := Lib.hid (fun W => take_neg B p nn W hm)
  have KR := Lib.hid (fun W => takeR_neg p' nn W hm)
  have KS := Lib.hid (fun W => same_any none none 0 0 0 0 [] [] W (bl_nil W) (bl_nil W))
  rw [decide_eq_true rfl] at KS
  clear h
  go_enter Try.func28, Try.ntmps28
  go_wp2
  go_region_held3 (fun w' => w'.cell? ⟨q, 0, none⟩ = some (.pointer (some ⟨p, 0, none⟩)) ∧ w'.cell? ⟨w.heap.size, 2, none⟩ = some (.int .i64 nn))
    (refine ⟨?_, ?_⟩ <;> first | assumption | (go_simp; done))
    (first
    | (go_at_call 18; refine (KU.out _).mono ?_; rintro e w1 ⟨rfl, h1⟩; subst h1))
  go_wp2
  go_region_held3 (fun w' => w'.cell? ⟨q, 1, none⟩ = some (.pointer (some ⟨p', 0, none⟩)) ∧ w'.cell? ⟨w.heap.size, 2, none⟩ = some (.int .i64 nn))
    (refine ⟨?_, ?_⟩ <;> first | assumption | (go_simp; done))
    (first
    | (go_at_call 41; refine (KR.out _).mono ?_; rintro e w2 ⟨rfl, h1⟩; subst h1))
  go_wp2_with (first
    | (go_at_call 14; refine (KS.out _).mono ?_; rintro e w3 ⟨rfl, i3, rfl⟩)
    | (go_at_call 42; refine (put_any B q c L none 0 0 0 [] _ (by exact HA.out.bk.blk rfl (fun _ _ => rfl)) (own_nil _ _) hc (by omega) (by exact Nat.le_trans hBw (Nat.le_of_lt (show w.heap.size < (w.heap.push _).size by simp))) (Nat.zero_le _)).mono ?_; rintro e w4 ⟨rfl, L4, p4⟩; have P4 := Lib.hid p4; clear p4))
  go_ret
  exact ⟨by first | rfl | simp, stepP_put0 HA.out (by exact ⟨rfl, rfl, rfl, Nat.le_refl _, fun _ _ _ => rfl⟩) P4.out (fun x hx => by cases hx)⟩


set_option maxRecDepth 100000 in
set_option maxHeartbeats 1500000 in
theorem step_take_short (B q p : Nat) (a : Option Addr) (n cap : Nat) (xs : List Int) (k p' : Nat) (a' : Option Addr) (cap' : Nat) (L : Value) (c : Nat) (lim : Int) (nn : Int) (w : World) (h : PO w B q p a n cap xs k p' a' cap' L c) (hm : ((n - k : Nat) : Int) < nn) (hc : c ≤ 1000000000) (hBw : B ≤ w.heap.size) :
    Calls Try.prog 28 #[.pointer (some ⟨q, 0, none⟩), .agg #[.int .i64 4, .int .u64 lim, .int .i64 nn]] w fun e w' => e = .returned (.bool true) ∧ StepP w w' B q p a n cap xs p' a' cap' L c := by
  have HA := Lib.hid (h.alloc (.cells #[.int .i64 4, .int .u64 lim, .int .i64 nn] 41))
  have HH := Lib.hid h
  have hp := h.rp.lt
  have hp' := h.rr.lt
  have q0 : (w.alloc (.cells #[.int .i64 4, .int .u64 lim, .int .i64 nn] 41)).cell? ⟨q, 0, none⟩ = some (.pointer (some ⟨p, 0, none⟩)) := HA.out.c0
  have q1 : (w.alloc (.cells #[.int .i64 4, .int .u64 lim, .int .i64 nn] 41)).cell? ⟨q, 1, none⟩ = some (.pointer (some ⟨p', 0, none⟩)) := HA.out.c1
  have KU := Lib.hid (fun W (g : RB W B p a n cap xs k) => take_shortq B p a n cap xs k nn W g hm)
  have KR := Lib.hid (fun W (g : RE W B p' a' n cap' xs k) => takeR_short B p' a' n cap' xs k nn W g hm)
  have KS := Lib.hid (fun W => same_any none none 0 0 0 0 [] [] W (bl_nil W) (bl_nil W))
  rw [decide_eq_true rfl] at KS
  clear h
  go_enter Try.func28, Try.ntmps28
  go_wp2
  go_region_held3 (fun w' => w'.cell? ⟨q, 0, none⟩ = some (.pointer (some ⟨p, 0, none⟩)) ∧ w'.cell? ⟨w.heap.size, 2, none⟩ = some (.int .i64 nn))
    (refine ⟨?_, ?_⟩ <;> first | assumption | (go_simp; done))
    (first
    | (go_at_call 18; refine (KU.out _ (by exact HA.out.rp.blk rfl (fun _ _ => rfl))).mono ?_; rintro e w1 ⟨rfl, i1, rfl⟩))
  go_wp2
  go_region_held3 (fun w' => w'.cell? ⟨q, 1, none⟩ = some (.pointer (some ⟨p', 0, none⟩)) ∧ w'.cell? ⟨w.heap.size, 2, none⟩ = some (.int .i64 nn))
    (refine ⟨?_, ?_⟩ <;> first | assumption | (go_simp; done))
    (first
    | (go_at_call 41; refine (KR.out _ (by exact HA.out.rr.blk rfl (fun _ _ => rfl))).mono ?_; rintro e w2 ⟨rfl, i2, rfl⟩))
  go_wp2_with (first
    | (go_at_call 14; refine (KS.out _).mono ?_; rintro e w3 ⟨rfl, i3, rfl⟩)
    | (go_at_call 42; refine (put_any B q c L none 0 0 0 [] _ (by exact HA.out.bk.blk rfl (fun _ _ => rfl)) (own_nil _ _) hc (by omega) (by exact Nat.le_trans hBw (Nat.le_of_lt (show w.heap.size < (w.heap.push _).size by simp))) (Nat.zero_le _)).mono ?_; rintro e w4 ⟨rfl, L4, p4⟩; have P4 := Lib.hid p4; clear p4))
  go_ret
  exact ⟨by first | rfl | simp, stepP_put0 HA.out (by exact ⟨rfl, rfl, rfl, Nat.le_refl _, fun _ _ _ => rfl⟩) P4.out (fun x hx => by cases hx)⟩


/-- Any step. -/
theorem step_any (B q p : Nat) (a : Option Addr) (n cap : Nat) (xs : List Int) (k p' : Nat) (a' : Option Addr) (cap' : Nat) (L : Value) (c : Nat) (f : Op3) (w : World) (h : PO w B q p a n cap xs k p' a' cap' L c) (hf : f.wf) (hn : n ≤ 140737488354000) (hc : c ≤ 1000000000) (hBw : B ≤ w.heap.size) :
    Calls Try.prog 28 #[.pointer (some ⟨q, 0, none⟩), .agg #[.int .i64 f.k, .int .u64 f.l, .int .i64 f.n]] w fun e w' => e = .returned (.bool true) ∧ StepP w w' B q p a n cap xs p' a' cap' L c := by
  obtain ⟨fk, fl, fn⟩ := f
  obtain ⟨lim, e, hl⟩ := u64_nat' hf.2.1
  have hnn : -9223372036854775808 ≤ fn ∧ fn ≤ 9223372036854775807 := by simpa [Lit.wf, IntKind.min, IntKind.max, IntKind.bits, IntKind.signed] using hf.2.2
  simp only at e ⊢
  by_cases k1 : fk = 1
  · subst k1 e; exact step_uint B q p a n cap xs k p' a' cap' L c lim fn w h
  by_cases k2 : fk = 2
  · subst k2; exact step_int B q p a n cap xs k p' a' cap' L c fl fn w h
  by_cases k5 : fk = 5
  · subst k5; exact step_place B q p a n cap xs k p' a' cap' L c fl fn w h
  by_cases k6 : fk = 6
  · subst k6; exact step_left B q p a n cap xs k p' a' cap' L c fl fn w h
  by_cases k4 : fk = 4
  · subst k4
    by_cases s1 : fn < 0
    · exact step_take_neg B q p a n cap xs k p' a' cap' L c fl fn w h s1 hc hBw
    · by_cases s2 : ((n - k : Nat) : Int) < fn
      · exact step_take_short B q p a n cap xs k p' a' cap' L c fl fn w h s2 hc hBw
      · obtain ⟨m, rfl⟩ : ∃ m : Nat, fn = (m : Int) := ⟨fn.toNat, by omega⟩
        have hk := h.rp.le
        exact step_take_ok B q p a n cap xs k p' a' cap' L c fl m w h (by omega) hn hc hBw
  by_cases k3 : fk = 3
  · subst k3
    by_cases s1 : fn < 0
    · exact step_text_neg B q p a n cap xs k p' a' cap' L c fl fn w h s1
    · obtain ⟨m, rfl⟩ : ∃ m : Nat, fn = (m : Int) := ⟨fn.toNat, by omega⟩
      have hb : ∀ c ∈ xs.drop k, 0 ≤ c ∧ c ≤ 255 := fun c hc => h.rp.byte c (List.mem_of_mem_drop hc)
      by_cases s2 : (rd (xs.drop k)).2.2 = 0
      · obtain ⟨_, r2, r3, r4, r5⟩ := rd_only hb s2
        rw [List.length_drop, h.rp.len] at r4
        by_cases s3 : m < (rd (xs.drop k)).1
        · exact step_text_bad B q p a n cap xs k p' a' cap' L c fl m 42 w h (by omega) (by unfold uR; simp [s2, s3]) (by decide)
        · have hu : uR (xs.drop k) m = ((rd (xs.drop k)).1, 0, (rd (xs.drop k)).2.1) := by unfold uR; simp [s2]; omega
          have hk := h.rp.le
          by_cases s4 : n - (k + (rd (xs.drop k)).2.1) < (rd (xs.drop k)).1
          · exact step_text_short B q p a n cap xs k p' a' cap' L c fl m _ _ w h (by omega) hu r3 (by omega) s4 (by omega)
          · obtain ⟨t, ht⟩ := mk_text ((xs.drop (k + (rd (xs.drop k)).2.1)).take (rd (xs.drop k)).1) (part_byte h.rp.byte _ _)
            have hts : t.size = (rd (xs.drop k)).1 := by
              have := congrArg List.length ht
              rw [sb_len] at this
              simp [h.rp.len] at this
              omega
            rw [← hts] at hu ht s4
            exact step_text_ok B q p a n cap xs k p' a' cap' L c fl m _ t w h (by omega) hu r3 (by omega) ht.symm
      · exact step_text_bad B q p a n cap xs k p' a' cap' L c fl m (rd (xs.drop k)).2.2 w h (by omega) (by unfold uR; simp [s2]) s2
  exact step_other B q p a n cap xs k p' a' cap' L c fk fl fn w h k1 k2 k3 k4 k5 k6
end Go.Proofs.Ytfgmgcllplgpnaa
