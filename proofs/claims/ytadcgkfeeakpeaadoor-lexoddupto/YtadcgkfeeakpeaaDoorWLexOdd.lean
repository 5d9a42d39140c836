/-
  WALK: LexOdd.
-/
import Derived.Test.YtadcgkfeeakpeaaDoorWLexFirst
namespace Go.Proofs.YtadcgkfeeakpeaaDoor
open Go.RowKit Lx
set_option linter.unusedVariables false
set_option linter.unusedSimpArgs false

/-- A byte that begins no token. -/
def oddN (c : Nat) : Prop := (c ≤ 32 ∧ c ≠ 32 ∧ c ≠ 9 ∧ c ≠ 10 ∧ c ≠ 13) ∨ 127 ≤ c ∨ c = 34 ∨ c = 36 ∨ c = 64 ∨ c = 94 ∨ c = 126 ∨ c = 92 ∨ c = 39 ∨ c = 95
theorem step_odd {c : UInt8} (q : L) (h : oddN c.toNat) : Lx.step (c :: q) = .err 0 61 := by
  have h1 : blN c.toNat = false := by unfold oddN at h; unfold blN; simp; omega
  have h2 : c.toNat ≠ 35 := by unfold oddN at h; omega
  have h3 : dgN c.toNat = false := by unfold oddN at h; unfold dgN; simp; omega
  have h4 : smN c.toNat = false := by unfold oddN at h; unfold smN; simp; omega
  have h5 : cpN c.toNat = false := by unfold oddN at h; unfold cpN; simp; omega
  have h6 : mkN c.toNat = false := by
    unfold oddN at h; unfold mkN mkL
    simp only [List.mem_cons, List.not_mem_nil, or_false, decide_eq_false_iff_not]
    omega
  have h7 : isPair (c :: q) = false := by
    cases q with
    | nil => rfl
    | cons d q =>
      show pairN c.toNat d.toNat = false
      unfold oddN at h; unfold pairN prL
      simp only [List.mem_cons, List.not_mem_nil, or_false, decide_eq_false_iff_not, Prod.mk.injEq]
      omega
  have h8 : fits form (c :: q) = false := by
    show (fitN c.toNat 48 && _) = false
    rw [show fitN c.toNat 48 = dgN c.toNat from rfl, h3]; rfl
  unfold Lx.step
  rw [List.headD_cons, if_neg (by rw [h1]; simp), if_neg h2, if_neg (by rw [h8]; simp), if_neg (by rw [h3]; simp), if_neg (by rw [h4]; simp), if_neg (by rw [h5]; simp)]
  unfold marT
  rw [if_neg (by rw [h7]; simp), List.headD_cons, if_neg (by rw [h6]; simp)]
/-- The texts that are made. -/
structure OD (text tail : ByteArray) (c : UInt8) (wh : ByteArray) (ts : List Tok) (p : Nat) (er : Int) (t1 t2 : ByteArray) : Prop where
  s1 : ∀ W, (Op.stringOp .add text ⟨#[10]⟩).run Tryd.prog W = .ok (.string t1) W
  s2 : ∀ W, (Op.stringOp .add t1 ⟨#[c]⟩).run Tryd.prog W = .ok (.string t2) W
  s3 : ∀ W, (Op.stringOp .add t2 tail).run Tryd.prog W = .ok (.string wh) W
  sc : Scn (lst text) ts p er
  sz : wh.size = text.size + 2 + tail.size
  sw : er = 0 → wh.size ≤ 65536 → Scn (lst wh) ts (text.size + 1) 61
theorem odd_data (text tail : ByteArray) (c : UInt8) (h1 : text.size ≤ 1048576) (h2 : tail.size ≤ 1048576) (ho : oddN c.toNat) : ∃ wh ts p er t1 t2, OD text tail c wh ts p er t1 t2 := by
  obtain ⟨ts, p, er, hS⟩ := Scn.total (lst text)
  refine ⟨bs (lst (bs (lst (bs (lst text ++ lst ⟨#[10]⟩)) ++ lst ⟨#[c]⟩)) ++ lst tail), ts, p, er, bs (lst text ++ lst ⟨#[10]⟩), bs (lst (bs (lst text ++ lst ⟨#[10]⟩)) ++ lst ⟨#[c]⟩), add_str text ⟨#[10]⟩ (by omega) (by decide), add_str _ ⟨#[c]⟩ ?_ (by show 1 ≤ 8388608; omega), add_str _ tail ?_ (by omega), hS, ?_, ?_⟩
  · rw [bs_size, List.length_append, lst_len]; show text.size + 1 ≤ _; omega
  · rw [bs_size, List.length_append, lst_bs, List.length_append, lst_len]; show text.size + 1 + 1 ≤ _; omega
  · rw [bs_size, List.length_append, lst_bs, List.length_append, lst_bs, List.length_append, lst_len, lst_len]; show text.size + 1 + 1 + tail.size = _; omega
  · intro he hw
    subst he
    have EW : lst (bs (lst (bs (lst (bs (lst text ++ lst ⟨#[10]⟩)) ++ lst ⟨#[c]⟩)) ++ lst tail)) = lst text ++ 10 :: (c :: lst tail) := by
      rw [lst_bs, lst_bs, lst_bs, List.append_assoc, List.append_assoc]; rfl
    rw [bs_size, ← lst_bs (lst (bs (lst (bs (lst text ++ lst ⟨#[10]⟩)) ++ lst ⟨#[c]⟩)) ++ lst tail), EW] at hw
    rw [EW]
    refine .inr ⟨hw, ?_⟩
    have hsc : Sc (lst text) 0 ts p 0 := by
      rcases hS with ⟨_, _, _, h⟩ | ⟨_, h⟩
      · cases h
      · exact h
    have := (Sc.more (c :: lst tail) hsc).2 rfl [] (text.size + 1) 61 (by
      have := Sc.err (r := c :: lst tail) (at_ := 0 + (lst text).length + 1) (by simp) (step_odd (lst tail) ho)
      rw [lst_len] at this ⊢
      simpa using this)
    rwa [List.append_nil] at this
theorem lexOdd_plain (text tail : ByteArray) (c : UInt8) (w : World) (hM : Mon w) (hE : Ev w) (h : ¬ oddN c.toNat) :
    Calls Tryd.prog 5 #[.string text, .int .u8 (c.toNat : Int), .string tail] w fun e w' => e = .returned (.bool true) ∧ Below w.heap.size w w' := by
  have KT := Lib.hid (takes_any w hM hE)
  clear hM hE
  by_cases h0 : c.toNat = 32 ∨ c.toNat = 9 ∨ c.toNat = 10 ∨ c.toNat = 13
  · have hx : ∀ n : UInt8, c.toNat = n.toNat → c = n := fun n h => UInt8.toNat_inj.1 h
    rcases h0 with q | q | q | q
    · obtain rfl := hx 32 q
      clear hx q h
      go_enter Tryd.func5, Tryd.ntmps5
      go_wp2_with (go_at_call 11; refine KT.out.mono ?_; rintro e w1 ⟨rfl, b1⟩; have B1 := Lib.hid b1; clear b1)
      go_ret
      exact ⟨rfl, B1.out⟩
    · obtain rfl := hx 9 q
      clear hx q h
      go_enter Tryd.func5, Tryd.ntmps5
      go_wp2_with (go_at_call 11; refine KT.out.mono ?_; rintro e w1 ⟨rfl, b1⟩; have B1 := Lib.hid b1; clear b1)
      go_ret
      exact ⟨rfl, B1.out⟩
    · obtain rfl := hx 10 q
      clear hx q h
      go_enter Tryd.func5, Tryd.ntmps5
      go_wp2_with (go_at_call 11; refine KT.out.mono ?_; rintro e w1 ⟨rfl, b1⟩; have B1 := Lib.hid b1; clear b1)
      go_ret
      exact ⟨rfl, B1.out⟩
    · obtain rfl := hx 13 q
      clear hx q h
      go_enter Tryd.func5, Tryd.ntmps5
      go_wp2_with (go_at_call 11; refine KT.out.mono ?_; rintro e w1 ⟨rfl, b1⟩; have B1 := Lib.hid b1; clear b1)
      go_ret
      exact ⟨rfl, B1.out⟩
  · unfold oddN at h
    have g1 : (32 : Int) < (c.toNat : Int) := by omega
    have g2 : (c.toNat : Int) < 127 := by omega
    have n34 : ((c.toNat : Int) != 34) = true := by rw [bne_iff_ne]; omega
    have n36 : ((c.toNat : Int) != 36) = true := by rw [bne_iff_ne]; omega
    have n64 : ((c.toNat : Int) != 64) = true := by rw [bne_iff_ne]; omega
    have n94 : ((c.toNat : Int) != 94) = true := by rw [bne_iff_ne]; omega
    have n126 : ((c.toNat : Int) != 126) = true := by rw [bne_iff_ne]; omega
    have n92 : ((c.toNat : Int) != 92) = true := by rw [bne_iff_ne]; omega
    have n39 : ((c.toNat : Int) != 39) = true := by rw [bne_iff_ne]; omega
    have n95 : ((c.toNat : Int) != 95) = true := by rw [bne_iff_ne]; omega
    clear h h0
    go_enter Tryd.func5, Tryd.ntmps5
    go_wp2_with (go_at_call 11; refine KT.out.mono ?_; rintro e w1 ⟨rfl, b1⟩; have B1 := Lib.hid b1; clear b1)
    go_ret
    exact ⟨rfl, B1.out⟩
set_option maxRecDepth 100000 in
set_option maxHeartbeats 2000000 in
theorem lexOdd_0 (text tail : ByteArray) (c : UInt8) (h1 : text.size ≤ 1048576) (h2 : tail.size ≤ 1048576) (w : World) (hM : Mon w) (hE : Ev w) (hq : c.toNat ≤ 32 ∧ c.toNat ≠ 32 ∧ c.toNat ≠ 9 ∧ c.toNat ≠ 10 ∧ c.toNat ≠ 13) :
    Calls Tryd.prog 5 #[.string text, .int .u8 (c.toNat : Int), .string tail] w fun e w' => e = .returned (.bool true) ∧ Below w.heap.size w w' := by
  have KT := Lib.hid (takes_any w hM hE)
  have HM := Lib.hid (p := ∀ W, Below w.heap.size w W → Mon W) (fun W b => mon_below (Nat.le_refl _) b hM)
  have HE := Lib.hid (p := ∀ W, Below w.heap.size w W → Ev W) (fun W b => ev_below hE b)
  obtain ⟨wh, ts, p, er, t1, t2, D⟩ := odd_data text tail c h1 h2 (by unfold oddN; omega)
  have s1 := D.s1
  have s2 := D.s2
  have s3 := D.s3
  have cv := fun W cap t => convOne W t c cap
  have KS := Lib.hid (fun W hM hE => scan_is text (by omega) ts p er D.sc W hM hE)
  have DD := Lib.hid D
  have g1 : decide ((32 : Int) < (c.toNat : Int)) = false := decide_eq_false (by omega)
  have e32 : ((c.toNat : Int) == 32) = false := by rw [beq_eq_false_iff_ne]; omega
  have e9 : ((c.toNat : Int) == 9) = false := by rw [beq_eq_false_iff_ne]; omega
  have e10 : ((c.toNat : Int) == 10) = false := by rw [beq_eq_false_iff_ne]; omega
  have e13 : ((c.toNat : Int) == 13) = false := by rw [beq_eq_false_iff_ne]; omega
  clear hM hE hq D
  by_cases he : er = 0
  · subst he
    by_cases hl : 65536 < wh.size
    · have hl' : (65536 : Int) < (wh.size : Int) := by omega
      go_enter Tryd.func5, Tryd.ntmps5
      go_wp2_with (first
        | (go_at_call 11; refine KT.out.mono ?_; rintro e w1 ⟨rfl, b1⟩; have B1 := Lib.hid b1; clear b1; have Q0 := Lib.hid (p := (1 : Nat) = 1) rfl)
        | (go_at_call 12; have qq := Q0; refine (KS.out _ (HM.out _ B1.out) (HE.out _ B1.out)).mono ?_; rintro e w2 ⟨a, cap, rfl, hL⟩; have B2 := Lib.hid (B1.out.trans (hL.bel.mono B1.out.size)); have T2 := Lib.hid hL.tl; have B2a := Lib.hid ((B1.out.trans (hL.bel.mono B1.out.size)).alloc (Nat.le_trans B1.out.size hL.bel.size) (.cells #[.int .u8 (c.toNat : Int)] 5)); have T2a := Lib.hid (hL.tl.later ((Below.refl _ _).alloc (Nat.le_refl _) (.cells #[.int .u8 (c.toNat : Int)] 5))); clear hL Q0))
      go_ret
      exact ⟨rfl, B2a.out⟩
    · have hl' : ¬ (65536 : Int) < (wh.size : Int) := by omega
      have KW := Lib.hid (fun W hM hE => scan_is wh (by omega) ts (text.size + 1) 61 (DD.out.sw rfl (by omega)) W hM hE)
      have KX := Lib.hid (fun a b c1 c2 W h h' => sameTok_any a b ts.length c1 c2 ts W h h')
      have kw : IntKind.i64.wrap ((text.size : Int) + 1) = (text.size : Int) + 1 := by simp [IntKind.wrap, IntKind.bits, IntKind.signed]; omega
      rw [Int.natCast_add, show ((1 : Nat) : Int) = 1 from rfl] at KW
      go_enter Tryd.func5, Tryd.ntmps5
      go_wp2_with (first
        | (go_at_call 11; refine KT.out.mono ?_; rintro e w1 ⟨rfl, b1⟩; have B1 := Lib.hid b1; clear b1; have Q0 := Lib.hid (p := (1 : Nat) = 1) rfl)
        | (go_at_call 12; have qq := Q0; refine (KS.out _ (HM.out _ B1.out) (HE.out _ B1.out)).mono ?_; rintro e w2 ⟨a, cap, rfl, hL⟩; have B2 := Lib.hid (B1.out.trans (hL.bel.mono B1.out.size)); have T2 := Lib.hid hL.tl; have B2a := Lib.hid ((B1.out.trans (hL.bel.mono B1.out.size)).alloc (Nat.le_trans B1.out.size hL.bel.size) (.cells #[.int .u8 (c.toNat : Int)] 5)); have T2a := Lib.hid (hL.tl.later ((Below.refl _ _).alloc (Nat.le_refl _) (.cells #[.int .u8 (c.toNat : Int)] 5))); clear hL Q0)
        | (go_at_call 12; refine (KW.out _ (HM.out _ B2a.out) (HE.out _ B2a.out)).mono ?_; rintro e w3 ⟨b, cap', rfl, hL⟩; have B3 := Lib.hid (B2a.out.trans (hL.bel.mono B2a.out.size)); have T3 := Lib.hid (T2a.out.later hL.bel); have U3 := Lib.hid hL.tl; clear hL)
        | (go_at_call 14; refine (KX.out _ _ _ _ _ T3.out U3.out).mono ?_; rintro e w4 ⟨rfl, q, rfl⟩))
      go_ret
      exact ⟨rfl, ⟨B3.out.os, B3.out.tape, B3.out.output, B3.out.size, B3.out.block⟩⟩
  · have er0 : (er != 0) = true := by rw [bne_iff_ne]; exact he
    clear he
    go_enter Tryd.func5, Tryd.ntmps5
    go_wp2_with (first
      | (go_at_call 11; refine KT.out.mono ?_; rintro e w1 ⟨rfl, b1⟩; have B1 := Lib.hid b1; clear b1; have Q0 := Lib.hid (p := (1 : Nat) = 1) rfl)
      | (go_at_call 12; have qq := Q0; refine (KS.out _ (HM.out _ B1.out) (HE.out _ B1.out)).mono ?_; rintro e w2 ⟨a, cap, rfl, hL⟩; have B2 := Lib.hid (B1.out.trans (hL.bel.mono B1.out.size)); have T2 := Lib.hid hL.tl; have B2a := Lib.hid ((B1.out.trans (hL.bel.mono B1.out.size)).alloc (Nat.le_trans B1.out.size hL.bel.size) (.cells #[.int .u8 (c.toNat : Int)] 5)); have T2a := Lib.hid (hL.tl.later ((Below.refl _ _).alloc (Nat.le_refl _) (.cells #[.int .u8 (c.toNat : Int)] 5))); clear hL Q0))
    go_ret
    exact ⟨rfl, B2a.out⟩
set_option maxRecDepth 100000 in
set_option maxHeartbeats 2000000 in
theorem lexOdd_1 (text tail : ByteArray) (c : UInt8) (h1 : text.size ≤ 1048576) (h2 : tail.size ≤ 1048576) (w : World) (hM : Mon w) (hE : Ev w) (hq : 127 ≤ c.toNat) :
    Calls Tryd.prog 5 #[.string text, .int .u8 (c.toNat : Int), .string tail] w fun e w' => e = .returned (.bool true) ∧ Below w.heap.size w w' := by
  have KT := Lib.hid (takes_any w hM hE)
  have HM := Lib.hid (p := ∀ W, Below w.heap.size w W → Mon W) (fun W b => mon_below (Nat.le_refl _) b hM)
  have HE := Lib.hid (p := ∀ W, Below w.heap.size w W → Ev W) (fun W b => ev_below hE b)
  obtain ⟨wh, ts, p, er, t1, t2, D⟩ := odd_data text tail c h1 h2 (by unfold oddN; omega)
  have s1 := D.s1
  have s2 := D.s2
  have s3 := D.s3
  have cv := fun W cap t => convOne W t c cap
  have KS := Lib.hid (fun W hM hE => scan_is text (by omega) ts p er D.sc W hM hE)
  have DD := Lib.hid D
  have g1 : (32 : Int) < (c.toNat : Int) := by omega
  have g2 : decide ((c.toNat : Int) < 127) = false := decide_eq_false (by omega)
  have e32 : ((c.toNat : Int) == 32) = false := by rw [beq_eq_false_iff_ne]; omega
  have e9 : ((c.toNat : Int) == 9) = false := by rw [beq_eq_false_iff_ne]; omega
  have e10 : ((c.toNat : Int) == 10) = false := by rw [beq_eq_false_iff_ne]; omega
  have e13 : ((c.toNat : Int) == 13) = false := by rw [beq_eq_false_iff_ne]; omega
  clear hM hE hq D
  by_cases he : er = 0
  · subst he
    by_cases hl : 65536 < wh.size
    · have hl' : (65536 : Int) < (wh.size : Int) := by omega
      go_enter Tryd.func5, Tryd.ntmps5
      go_wp2_with (first
        | (go_at_call 11; refine KT.out.mono ?_; rintro e w1 ⟨rfl, b1⟩; have B1 := Lib.hid b1; clear b1; have Q0 := Lib.hid (p := (1 : Nat) = 1) rfl)
        | (go_at_call 12; have qq := Q0; refine (KS.out _ (HM.out _ B1.out) (HE.out _ B1.out)).mono ?_; rintro e w2 ⟨a, cap, rfl, hL⟩; have B2 := Lib.hid (B1.out.trans (hL.bel.mono B1.out.size)); have T2 := Lib.hid hL.tl; have B2a := Lib.hid ((B1.out.trans (hL.bel.mono B1.out.size)).alloc (Nat.le_trans B1.out.size hL.bel.size) (.cells #[.int .u8 (c.toNat : Int)] 5)); have T2a := Lib.hid (hL.tl.later ((Below.refl _ _).alloc (Nat.le_refl _) (.cells #[.int .u8 (c.toNat : Int)] 5))); clear hL Q0))
      go_ret
      exact ⟨rfl, B2a.out⟩
    · have hl' : ¬ (65536 : Int) < (wh.size : Int) := by omega
      have KW := Lib.hid (fun W hM hE => scan_is wh (by omega) ts (text.size + 1) 61 (DD.out.sw rfl (by omega)) W hM hE)
      have KX := Lib.hid (fun a b c1 c2 W h h' => sameTok_any a b ts.length c1 c2 ts W h h')
      have kw : IntKind.i64.wrap ((text.size : Int) + 1) = (text.size : Int) + 1 := by simp [IntKind.wrap, IntKind.bits, IntKind.signed]; omega
      rw [Int.natCast_add, show ((1 : Nat) : Int) = 1 from rfl] at KW
      go_enter Tryd.func5, Tryd.ntmps5
      go_wp2_with (first
        | (go_at_call 11; refine KT.out.mono ?_; rintro e w1 ⟨rfl, b1⟩; have B1 := Lib.hid b1; clear b1; have Q0 := Lib.hid (p := (1 : Nat) = 1) rfl)
        | (go_at_call 12; have qq := Q0; refine (KS.out _ (HM.out _ B1.out) (HE.out _ B1.out)).mono ?_; rintro e w2 ⟨a, cap, rfl, hL⟩; have B2 := Lib.hid (B1.out.trans (hL.bel.mono B1.out.size)); have T2 := Lib.hid hL.tl; have B2a := Lib.hid ((B1.out.trans (hL.bel.mono B1.out.size)).alloc (Nat.le_trans B1.out.size hL.bel.size) (.cells #[.int .u8 (c.toNat : Int)] 5)); have T2a := Lib.hid (hL.tl.later ((Below.refl _ _).alloc (Nat.le_refl _) (.cells #[.int .u8 (c.toNat : Int)] 5))); clear hL Q0)
        | (go_at_call 12; refine (KW.out _ (HM.out _ B2a.out) (HE.out _ B2a.out)).mono ?_; rintro e w3 ⟨b, cap', rfl, hL⟩; have B3 := Lib.hid (B2a.out.trans (hL.bel.mono B2a.out.size)); have T3 := Lib.hid (T2a.out.later hL.bel); have U3 := Lib.hid hL.tl; clear hL)
        | (go_at_call 14; refine (KX.out _ _ _ _ _ T3.out U3.out).mono ?_; rintro e w4 ⟨rfl, q, rfl⟩))
      go_ret
      exact ⟨rfl, ⟨B3.out.os, B3.out.tape, B3.out.output, B3.out.size, B3.out.block⟩⟩
  · have er0 : (er != 0) = true := by rw [bne_iff_ne]; exact he
    clear he
    go_enter Tryd.func5, Tryd.ntmps5
    go_wp2_with (first
      | (go_at_call 11; refine KT.out.mono ?_; rintro e w1 ⟨rfl, b1⟩; have B1 := Lib.hid b1; clear b1; have Q0 := Lib.hid (p := (1 : Nat) = 1) rfl)
      | (go_at_call 12; have qq := Q0; refine (KS.out _ (HM.out _ B1.out) (HE.out _ B1.out)).mono ?_; rintro e w2 ⟨a, cap, rfl, hL⟩; have B2 := Lib.hid (B1.out.trans (hL.bel.mono B1.out.size)); have T2 := Lib.hid hL.tl; have B2a := Lib.hid ((B1.out.trans (hL.bel.mono B1.out.size)).alloc (Nat.le_trans B1.out.size hL.bel.size) (.cells #[.int .u8 (c.toNat : Int)] 5)); have T2a := Lib.hid (hL.tl.later ((Below.refl _ _).alloc (Nat.le_refl _) (.cells #[.int .u8 (c.toNat : Int)] 5))); clear hL Q0))
    go_ret
    exact ⟨rfl, B2a.out⟩
set_option maxRecDepth 100000 in
set_option maxHeartbeats 2000000 in
theorem lexOdd_2 (text tail : ByteArray) (c : UInt8) (h1 : text.size ≤ 1048576) (h2 : tail.size ≤ 1048576) (w : World) (hM : Mon w) (hE : Ev w) (hq : c.toNat = 34) :
    Calls Tryd.prog 5 #[.string text, .int .u8 (c.toNat : Int), .string tail] w fun e w' => e = .returned (.bool true) ∧ Below w.heap.size w w' := by
  have KT := Lib.hid (takes_any w hM hE)
  have HM := Lib.hid (p := ∀ W, Below w.heap.size w W → Mon W) (fun W b => mon_below (Nat.le_refl _) b hM)
  have HE := Lib.hid (p := ∀ W, Below w.heap.size w W → Ev W) (fun W b => ev_below hE b)
  obtain ⟨wh, ts, p, er, t1, t2, D⟩ := odd_data text tail c h1 h2 (by unfold oddN; omega)
  have s1 := D.s1
  have s2 := D.s2
  have s3 := D.s3
  have cv := fun W cap t => convOne W t c cap
  have KS := Lib.hid (fun W hM hE => scan_is text (by omega) ts p er D.sc W hM hE)
  have DD := Lib.hid D
  have g1 : (32 : Int) < (c.toNat : Int) := by omega
  have g2 : (c.toNat : Int) < 127 := by omega
  have n34 : ((c.toNat : Int) != 34) = false := by rw [hq]; rfl
  have e32 : ((c.toNat : Int) == 32) = false := by rw [beq_eq_false_iff_ne]; omega
  have e9 : ((c.toNat : Int) == 9) = false := by rw [beq_eq_false_iff_ne]; omega
  have e10 : ((c.toNat : Int) == 10) = false := by rw [beq_eq_false_iff_ne]; omega
  have e13 : ((c.toNat : Int) == 13) = false := by rw [beq_eq_false_iff_ne]; omega
  clear hM hE hq D
  by_cases he : er = 0
  · subst he
    by_cases hl : 65536 < wh.size
    · have hl' : (65536 : Int) < (wh.size : Int) := by omega
      go_enter Tryd.func5, Tryd.ntmps5
      go_wp2_with (first
        | (go_at_call 11; refine KT.out.mono ?_; rintro e w1 ⟨rfl, b1⟩; have B1 := Lib.hid b1; clear b1; have Q0 := Lib.hid (p := (1 : Nat) = 1) rfl)
        | (go_at_call 12; have qq := Q0; refine (KS.out _ (HM.out _ B1.out) (HE.out _ B1.out)).mono ?_; rintro e w2 ⟨a, cap, rfl, hL⟩; have B2 := Lib.hid (B1.out.trans (hL.bel.mono B1.out.size)); have T2 := Lib.hid hL.tl; have B2a := Lib.hid ((B1.out.trans (hL.bel.mono B1.out.size)).alloc (Nat.le_trans B1.out.size hL.bel.size) (.cells #[.int .u8 (c.toNat : Int)] 5)); have T2a := Lib.hid (hL.tl.later ((Below.refl _ _).alloc (Nat.le_refl _) (.cells #[.int .u8 (c.toNat : Int)] 5))); clear hL Q0))
      go_ret
      exact ⟨rfl, B2a.out⟩
    · have hl' : ¬ (65536 : Int) < (wh.size : Int) := by omega
      have KW := Lib.hid (fun W hM hE => scan_is wh (by omega) ts (text.size + 1) 61 (DD.out.sw rfl (by omega)) W hM hE)
      have KX := Lib.hid (fun a b c1 c2 W h h' => sameTok_any a b ts.length c1 c2 ts W h h')
      have kw : IntKind.i64.wrap ((text.size : Int) + 1) = (text.size : Int) + 1 := by simp [IntKind.wrap, IntKind.bits, IntKind.signed]; omega
      rw [Int.natCast_add, show ((1 : Nat) : Int) = 1 from rfl] at KW
      go_enter Tryd.func5, Tryd.ntmps5
      go_wp2_with (first
        | (go_at_call 11; refine KT.out.mono ?_; rintro e w1 ⟨rfl, b1⟩; have B1 := Lib.hid b1; clear b1; have Q0 := Lib.hid (p := (1 : Nat) = 1) rfl)
        | (go_at_call 12; have qq := Q0; refine (KS.out _ (HM.out _ B1.out) (HE.out _ B1.out)).mono ?_; rintro e w2 ⟨a, cap, rfl, hL⟩; have B2 := Lib.hid (B1.out.trans (hL.bel.mono B1.out.size)); have T2 := Lib.hid hL.tl; have B2a := Lib.hid ((B1.out.trans (hL.bel.mono B1.out.size)).alloc (Nat.le_trans B1.out.size hL.bel.size) (.cells #[.int .u8 (c.toNat : Int)] 5)); have T2a := Lib.hid (hL.tl.later ((Below.refl _ _).alloc (Nat.le_refl _) (.cells #[.int .u8 (c.toNat : Int)] 5))); clear hL Q0)
        | (go_at_call 12; refine (KW.out _ (HM.out _ B2a.out) (HE.out _ B2a.out)).mono ?_; rintro e w3 ⟨b, cap', rfl, hL⟩; have B3 := Lib.hid (B2a.out.trans (hL.bel.mono B2a.out.size)); have T3 := Lib.hid (T2a.out.later hL.bel); have U3 := Lib.hid hL.tl; clear hL)
        | (go_at_call 14; refine (KX.out _ _ _ _ _ T3.out U3.out).mono ?_; rintro e w4 ⟨rfl, q, rfl⟩))
      go_ret
      exact ⟨rfl, ⟨B3.out.os, B3.out.tape, B3.out.output, B3.out.size, B3.out.block⟩⟩
  · have er0 : (er != 0) = true := by rw [bne_iff_ne]; exact he
    clear he
    go_enter Tryd.func5, Tryd.ntmps5
    go_wp2_with (first
      | (go_at_call 11; refine KT.out.mono ?_; rintro e w1 ⟨rfl, b1⟩; have B1 := Lib.hid b1; clear b1; have Q0 := Lib.hid (p := (1 : Nat) = 1) rfl)
      | (go_at_call 12; have qq := Q0; refine (KS.out _ (HM.out _ B1.out) (HE.out _ B1.out)).mono ?_; rintro e w2 ⟨a, cap, rfl, hL⟩; have B2 := Lib.hid (B1.out.trans (hL.bel.mono B1.out.size)); have T2 := Lib.hid hL.tl; have B2a := Lib.hid ((B1.out.trans (hL.bel.mono B1.out.size)).alloc (Nat.le_trans B1.out.size hL.bel.size) (.cells #[.int .u8 (c.toNat : Int)] 5)); have T2a := Lib.hid (hL.tl.later ((Below.refl _ _).alloc (Nat.le_refl _) (.cells #[.int .u8 (c.toNat : Int)] 5))); clear hL Q0))
    go_ret
    exact ⟨rfl, B2a.out⟩
set_option maxRecDepth 100000 in
set_option maxHeartbeats 2000000 in
theorem lexOdd_3 (text tail : ByteArray) (c : UInt8) (h1 : text.size ≤ 1048576) (h2 : tail.size ≤ 1048576) (w : World) (hM : Mon w) (hE : Ev w) (hq : c.toNat = 36) :
    Calls Tryd.prog 5 #[.string text, .int .u8 (c.toNat : Int), .string tail] w fun e w' => e = .returned (.bool true) ∧ Below w.heap.size w w' := by
  have KT := Lib.hid (takes_any w hM hE)
  have HM := Lib.hid (p := ∀ W, Below w.heap.size w W → Mon W) (fun W b => mon_below (Nat.le_refl _) b hM)
  have HE := Lib.hid (p := ∀ W, Below w.heap.size w W → Ev W) (fun W b => ev_below hE b)
  obtain ⟨wh, ts, p, er, t1, t2, D⟩ := odd_data text tail c h1 h2 (by unfold oddN; omega)
  have s1 := D.s1
  have s2 := D.s2
  have s3 := D.s3
  have cv := fun W cap t => convOne W t c cap
  have KS := Lib.hid (fun W hM hE => scan_is text (by omega) ts p er D.sc W hM hE)
  have DD := Lib.hid D
  have g1 : (32 : Int) < (c.toNat : Int) := by omega
  have g2 : (c.toNat : Int) < 127 := by omega
  have n34 : ((c.toNat : Int) != 34) = true := by rw [bne_iff_ne]; omega
  have n36 : ((c.toNat : Int) != 36) = false := by rw [hq]; rfl
  have e32 : ((c.toNat : Int) == 32) = false := by rw [beq_eq_false_iff_ne]; omega
  have e9 : ((c.toNat : Int) == 9) = false := by rw [beq_eq_false_iff_ne]; omega
  have e10 : ((c.toNat : Int) == 10) = false := by rw [beq_eq_false_iff_ne]; omega
  have e13 : ((c.toNat : Int) == 13) = false := by rw [beq_eq_false_iff_ne]; omega
  clear hM hE hq D
  by_cases he : er = 0
  · subst he
    by_cases hl : 65536 < wh.size
    · have hl' : (65536 : Int) < (wh.size : Int) := by omega
      go_enter Tryd.func5, Tryd.ntmps5
      go_wp2_with (first
        | (go_at_call 11; refine KT.out.mono ?_; rintro e w1 ⟨rfl, b1⟩; have B1 := Lib.hid b1; clear b1; have Q0 := Lib.hid (p := (1 : Nat) = 1) rfl)
        | (go_at_call 12; have qq := Q0; refine (KS.out _ (HM.out _ B1.out) (HE.out _ B1.out)).mono ?_; rintro e w2 ⟨a, cap, rfl, hL⟩; have B2 := Lib.hid (B1.out.trans (hL.bel.mono B1.out.size)); have T2 := Lib.hid hL.tl; have B2a := Lib.hid ((B1.out.trans (hL.bel.mono B1.out.size)).alloc (Nat.le_trans B1.out.size hL.bel.size) (.cells #[.int .u8 (c.toNat : Int)] 5)); have T2a := Lib.hid (hL.tl.later ((Below.refl _ _).alloc (Nat.le_refl _) (.cells #[.int .u8 (c.toNat : Int)] 5))); clear hL Q0))
      go_ret
      exact ⟨rfl, B2a.out⟩
    · have hl' : ¬ (65536 : Int) < (wh.size : Int) := by omega
      have KW := Lib.hid (fun W hM hE => scan_is wh (by omega) ts (text.size + 1) 61 (DD.out.sw rfl (by omega)) W hM hE)
      have KX := Lib.hid (fun a b c1 c2 W h h' => sameTok_any a b ts.length c1 c2 ts W h h')
      have kw : IntKind.i64.wrap ((text.size : Int) + 1) = (text.size : Int) + 1 := by simp [IntKind.wrap, IntKind.bits, IntKind.signed]; omega
      rw [Int.natCast_add, show ((1 : Nat) : Int) = 1 from rfl] at KW
      go_enter Tryd.func5, Tryd.ntmps5
      go_wp2_with (first
        | (go_at_call 11; refine KT.out.mono ?_; rintro e w1 ⟨rfl, b1⟩; have B1 := Lib.hid b1; clear b1; have Q0 := Lib.hid (p := (1 : Nat) = 1) rfl)
        | (go_at_call 12; have qq := Q0; refine (KS.out _ (HM.out _ B1.out) (HE.out _ B1.out)).mono ?_; rintro e w2 ⟨a, cap, rfl, hL⟩; have B2 := Lib.hid (B1.out.trans (hL.bel.mono B1.out.size)); have T2 := Lib.hid hL.tl; have B2a := Lib.hid ((B1.out.trans (hL.bel.mono B1.out.size)).alloc (Nat.le_trans B1.out.size hL.bel.size) (.cells #[.int .u8 (c.toNat : Int)] 5)); have T2a := Lib.hid (hL.tl.later ((Below.refl _ _).alloc (Nat.le_refl _) (.cells #[.int .u8 (c.toNat : Int)] 5))); clear hL Q0)
        | (go_at_call 12; refine (KW.out _ (HM.out _ B2a.out) (HE.out _ B2a.out)).mono ?_; rintro e w3 ⟨b, cap', rfl, hL⟩; have B3 := Lib.hid (B2a.out.trans (hL.bel.mono B2a.out.size)); have T3 := Lib.hid (T2a.out.later hL.bel); have U3 := Lib.hid hL.tl; clear hL)
        | (go_at_call 14; refine (KX.out _ _ _ _ _ T3.out U3.out).mono ?_; rintro e w4 ⟨rfl, q, rfl⟩))
      go_ret
      exact ⟨rfl, ⟨B3.out.os, B3.out.tape, B3.out.output, B3.out.size, B3.out.block⟩⟩
  · have er0 : (er != 0) = true := by rw [bne_iff_ne]; exact he
    clear he
    go_enter Tryd.func5, Tryd.ntmps5
    go_wp2_with (first
      | (go_at_call 11; refine KT.out.mono ?_; rintro e w1 ⟨rfl, b1⟩; have B1 := Lib.hid b1; clear b1; have Q0 := Lib.hid (p := (1 : Nat) = 1) rfl)
      | (go_at_call 12; have qq := Q0; refine (KS.out _ (HM.out _ B1.out) (HE.out _ B1.out)).mono ?_; rintro e w2 ⟨a, cap, rfl, hL⟩; have B2 := Lib.hid (B1.out.trans (hL.bel.mono B1.out.size)); have T2 := Lib.hid hL.tl; have B2a := Lib.hid ((B1.out.trans (hL.bel.mono B1.out.size)).alloc (Nat.le_trans B1.out.size hL.bel.size) (.cells #[.int .u8 (c.toNat : Int)] 5)); have T2a := Lib.hid (hL.tl.later ((Below.refl _ _).alloc (Nat.le_refl _) (.cells #[.int .u8 (c.toNat : Int)] 5))); clear hL Q0))
    go_ret
    exact ⟨rfl, B2a.out⟩
set_option maxRecDepth 100000 in
set_option maxHeartbeats 2000000 in
theorem lexOdd_4 (text tail : ByteArray) (c : UInt8) (h1 : text.size ≤ 1048576) (h2 : tail.size ≤ 1048576) (w : World) (hM : Mon w) (hE : Ev w) (hq : c.toNat = 64) :
    Calls Tryd.prog 5 #[.string text, .int .u8 (c.toNat : Int), .string tail] w fun e w' => e = .returned (.bool true) ∧ Below w.heap.size w w' := by
  have KT := Lib.hid (takes_any w hM hE)
  have HM := Lib.hid (p := ∀ W, Below w.heap.size w W → Mon W) (fun W b => mon_below (Nat.le_refl _) b hM)
  have HE := Lib.hid (p := ∀ W, Below w.heap.size w W → Ev W) (fun W b => ev_below hE b)
  obtain ⟨wh, ts, p, er, t1, t2, D⟩ := odd_data text tail c h1 h2 (by unfold oddN; omega)
  have s1 := D.s1
  have s2 := D.s2
  have s3 := D.s3
  have cv := fun W cap t => convOne W t c cap
  have KS := Lib.hid (fun W hM hE => scan_is text (by omega) ts p er D.sc W hM hE)
  have DD := Lib.hid D
  have g1 : (32 : Int) < (c.toNat : Int) := by omega
  have g2 : (c.toNat : Int) < 127 := by omega
  have n34 : ((c.toNat : Int) != 34) = true := by rw [bne_iff_ne]; omega
  have n36 : ((c.toNat : Int) != 36) = true := by rw [bne_iff_ne]; omega
  have n64 : ((c.toNat : Int) != 64) = false := by rw [hq]; rfl
  have e32 : ((c.toNat : Int) == 32) = false := by rw [beq_eq_false_iff_ne]; omega
  have e9 : ((c.toNat : Int) == 9) = false := by rw [beq_eq_false_iff_ne]; omega
  have e10 : ((c.toNat : Int) == 10) = false := by rw [beq_eq_false_iff_ne]; omega
  have e13 : ((c.toNat : Int) == 13) = false := by rw [beq_eq_false_iff_ne]; omega
  clear hM hE hq D
  by_cases he : er = 0
  · subst he
    by_cases hl : 65536 < wh.size
    · have hl' : (65536 : Int) < (wh.size : Int) := by omega
      go_enter Tryd.func5, Tryd.ntmps5
      go_wp2_with (first
        | (go_at_call 11; refine KT.out.mono ?_; rintro e w1 ⟨rfl, b1⟩; have B1 := Lib.hid b1; clear b1; have Q0 := Lib.hid (p := (1 : Nat) = 1) rfl)
        | (go_at_call 12; have qq := Q0; refine (KS.out _ (HM.out _ B1.out) (HE.out _ B1.out)).mono ?_; rintro e w2 ⟨a, cap, rfl, hL⟩; have B2 := Lib.hid (B1.out.trans (hL.bel.mono B1.out.size)); have T2 := Lib.hid hL.tl; have B2a := Lib.hid ((B1.out.trans (hL.bel.mono B1.out.size)).alloc (Nat.le_trans B1.out.size hL.bel.size) (.cells #[.int .u8 (c.toNat : Int)] 5)); have T2a := Lib.hid (hL.tl.later ((Below.refl _ _).alloc (Nat.le_refl _) (.cells #[.int .u8 (c.toNat : Int)] 5))); clear hL Q0))
      go_ret
      exact ⟨rfl, B2a.out⟩
    · have hl' : ¬ (65536 : Int) < (wh.size : Int) := by omega
      have KW := Lib.hid (fun W hM hE => scan_is wh (by omega) ts (text.size + 1) 61 (DD.out.sw rfl (by omega)) W hM hE)
      have KX := Lib.hid (fun a b c1 c2 W h h' => sameTok_any a b ts.length c1 c2 ts W h h')
      have kw : IntKind.i64.wrap ((text.size : Int) + 1) = (text.size : Int) + 1 := by simp [IntKind.wrap, IntKind.bits, IntKind.signed]; omega
      rw [Int.natCast_add, show ((1 : Nat) : Int) = 1 from rfl] at KW
      go_enter Tryd.func5, Tryd.ntmps5
      go_wp2_with (first
        | (go_at_call 11; refine KT.out.mono ?_; rintro e w1 ⟨rfl, b1⟩; have B1 := Lib.hid b1; clear b1; have Q0 := Lib.hid (p := (1 : Nat) = 1) rfl)
        | (go_at_call 12; have qq := Q0; refine (KS.out _ (HM.out _ B1.out) (HE.out _ B1.out)).mono ?_; rintro e w2 ⟨a, cap, rfl, hL⟩; have B2 := Lib.hid (B1.out.trans (hL.bel.mono B1.out.size)); have T2 := Lib.hid hL.tl; have B2a := Lib.hid ((B1.out.trans (hL.bel.mono B1.out.size)).alloc (Nat.le_trans B1.out.size hL.bel.size) (.cells #[.int .u8 (c.toNat : Int)] 5)); have T2a := Lib.hid (hL.tl.later ((Below.refl _ _).alloc (Nat.le_refl _) (.cells #[.int .u8 (c.toNat : Int)] 5))); clear hL Q0)
        | (go_at_call 12; refine (KW.out _ (HM.out _ B2a.out) (HE.out _ B2a.out)).mono ?_; rintro e w3 ⟨b, cap', rfl, hL⟩; have B3 := Lib.hid (B2a.out.trans (hL.bel.mono B2a.out.size)); have T3 := Lib.hid (T2a.out.later hL.bel); have U3 := Lib.hid hL.tl; clear hL)
        | (go_at_call 14; refine (KX.out _ _ _ _ _ T3.out U3.out).mono ?_; rintro e w4 ⟨rfl, q, rfl⟩))
      go_ret
      exact ⟨rfl, ⟨B3.out.os, B3.out.tape, B3.out.output, B3.out.size, B3.out.block⟩⟩
  · have er0 : (er != 0) = true := by rw [bne_iff_ne]; exact he
    clear he
    go_enter Tryd.func5, Tryd.ntmps5
    go_wp2_with (first
      | (go_at_call 11; refine KT.out.mono ?_; rintro e w1 ⟨rfl, b1⟩; have B1 := Lib.hid b1; clear b1; have Q0 := Lib.hid (p := (1 : Nat) = 1) rfl)
      | (go_at_call 12; have qq := Q0; refine (KS.out _ (HM.out _ B1.out) (HE.out _ B1.out)).mono ?_; rintro e w2 ⟨a, cap, rfl, hL⟩; have B2 := Lib.hid (B1.out.trans (hL.bel.mono B1.out.size)); have T2 := Lib.hid hL.tl; have B2a := Lib.hid ((B1.out.trans (hL.bel.mono B1.out.size)).alloc (Nat.le_trans B1.out.size hL.bel.size) (.cells #[.int .u8 (c.toNat : Int)] 5)); have T2a := Lib.hid (hL.tl.later ((Below.refl _ _).alloc (Nat.le_refl _) (.cells #[.int .u8 (c.toNat : Int)] 5))); clear hL Q0))
    go_ret
    exact ⟨rfl, B2a.out⟩
set_option maxRecDepth 100000 in
set_option maxHeartbeats 2000000 in
theorem lexOdd_5 (text tail : ByteArray) (c : UInt8) (h1 : text.size ≤ 1048576) (h2 : tail.size ≤ 1048576) (w : World) (hM : Mon w) (hE : Ev w) (hq : c.toNat = 94) :
    Calls Tryd.prog 5 #[.string text, .int .u8 (c.toNat : Int), .string tail] w fun e w' => e = .returned (.bool true) ∧ Below w.heap.size w w' := by
  have KT := Lib.hid (takes_any w hM hE)
  have HM := Lib.hid (p := ∀ W, Below w.heap.size w W → Mon W) (fun W b => mon_below (Nat.le_refl _) b hM)
  have HE := Lib.hid (p := ∀ W, Below w.heap.size w W → Ev W) (fun W b => ev_below hE b)
  obtain ⟨wh, ts, p, er, t1, t2, D⟩ := odd_data text tail c h1 h2 (by unfold oddN; omega)
  have s1 := D.s1
  have s2 := D.s2
  have s3 := D.s3
  have cv := fun W cap t => convOne W t c cap
  have KS := Lib.hid (fun W hM hE => scan_is text (by omega) ts p er D.sc W hM hE)
  have DD := Lib.hid D
  have g1 : (32 : Int) < (c.toNat : Int) := by omega
  have g2 : (c.toNat : Int) < 127 := by omega
  have n34 : ((c.toNat : Int) != 34) = true := by rw [bne_iff_ne]; omega
  have n36 : ((c.toNat : Int) != 36) = true := by rw [bne_iff_ne]; omega
  have n64 : ((c.toNat : Int) != 64) = true := by rw [bne_iff_ne]; omega
  have n94 : ((c.toNat : Int) != 94) = false := by rw [hq]; rfl
  have e32 : ((c.toNat : Int) == 32) = false := by rw [beq_eq_false_iff_ne]; omega
  have e9 : ((c.toNat : Int) == 9) = false := by rw [beq_eq_false_iff_ne]; omega
  have e10 : ((c.toNat : Int) == 10) = false := by rw [beq_eq_false_iff_ne]; omega
  have e13 : ((c.toNat : Int) == 13) = false := by rw [beq_eq_false_iff_ne]; omega
  clear hM hE hq D
  by_cases he : er = 0
  · subst he
    by_cases hl : 65536 < wh.size
    · have hl' : (65536 : Int) < (wh.size : Int) := by omega
      go_enter Tryd.func5, Tryd.ntmps5
      go_wp2_with (first
        | (go_at_call 11; refine KT.out.mono ?_; rintro e w1 ⟨rfl, b1⟩; have B1 := Lib.hid b1; clear b1; have Q0 := Lib.hid (p := (1 : Nat) = 1) rfl)
        | (go_at_call 12; have qq := Q0; refine (KS.out _ (HM.out _ B1.out) (HE.out _ B1.out)).mono ?_; rintro e w2 ⟨a, cap, rfl, hL⟩; have B2 := Lib.hid (B1.out.trans (hL.bel.mono B1.out.size)); have T2 := Lib.hid hL.tl; have B2a := Lib.hid ((B1.out.trans (hL.bel.mono B1.out.size)).alloc (Nat.le_trans B1.out.size hL.bel.size) (.cells #[.int .u8 (c.toNat : Int)] 5)); have T2a := Lib.hid (hL.tl.later ((Below.refl _ _).alloc (Nat.le_refl _) (.cells #[.int .u8 (c.toNat : Int)] 5))); clear hL Q0))
      go_ret
      exact ⟨rfl, B2a.out⟩
    · have hl' : ¬ (65536 : Int) < (wh.size : Int) := by omega
      have KW := Lib.hid (fun W hM hE => scan_is wh (by omega) ts (text.size + 1) 61 (DD.out.sw rfl (by omega)) W hM hE)
      have KX := Lib.hid (fun a b c1 c2 W h h' => sameTok_any a b ts.length c1 c2 ts W h h')
      have kw : IntKind.i64.wrap ((text.size : Int) + 1) = (text.size : Int) + 1 := by simp [IntKind.wrap, IntKind.bits, IntKind.signed]; omega
      rw [Int.natCast_add, show ((1 : Nat) : Int) = 1 from rfl] at KW
      go_enter Tryd.func5, Tryd.ntmps5
      go_wp2_with (first
        | (go_at_call 11; refine KT.out.mono ?_; rintro e w1 ⟨rfl, b1⟩; have B1 := Lib.hid b1; clear b1; have Q0 := Lib.hid (p := (1 : Nat) = 1) rfl)
        | (go_at_call 12; have qq := Q0; refine (KS.out _ (HM.out _ B1.out) (HE.out _ B1.out)).mono ?_; rintro e w2 ⟨a, cap, rfl, hL⟩; have B2 := Lib.hid (B1.out.trans (hL.bel.mono B1.out.size)); have T2 := Lib.hid hL.tl; have B2a := Lib.hid ((B1.out.trans (hL.bel.mono B1.out.size)).alloc (Nat.le_trans B1.out.size hL.bel.size) (.cells #[.int .u8 (c.toNat : Int)] 5)); have T2a := Lib.hid (hL.tl.later ((Below.refl _ _).alloc (Nat.le_refl _) (.cells #[.int .u8 (c.toNat : Int)] 5))); clear hL Q0)
        | (go_at_call 12; refine (KW.out _ (HM.out _ B2a.out) (HE.out _ B2a.out)).mono ?_; rintro e w3 ⟨b, cap', rfl, hL⟩; have B3 := Lib.hid (B2a.out.trans (hL.bel.mono B2a.out.size)); have T3 := Lib.hid (T2a.out.later hL.bel); have U3 := Lib.hid hL.tl; clear hL)
        | (go_at_call 14; refine (KX.out _ _ _ _ _ T3.out U3.out).mono ?_; rintro e w4 ⟨rfl, q, rfl⟩))
      go_ret
      exact ⟨rfl, ⟨B3.out.os, B3.out.tape, B3.out.output, B3.out.size, B3.out.block⟩⟩
  · have er0 : (er != 0) = true := by rw [bne_iff_ne]; exact he
    clear he
    go_enter Tryd.func5, Tryd.ntmps5
    go_wp2_with (first
      | (go_at_call 11; refine KT.out.mono ?_; rintro e w1 ⟨rfl, b1⟩; have B1 := Lib.hid b1; clear b1; have Q0 := Lib.hid (p := (1 : Nat) = 1) rfl)
      | (go_at_call 12; have qq := Q0; refine (KS.out _ (HM.out _ B1.out) (HE.out _ B1.out)).mono ?_; rintro e w2 ⟨a, cap, rfl, hL⟩; have B2 := Lib.hid (B1.out.trans (hL.bel.mono B1.out.size)); have T2 := Lib.hid hL.tl; have B2a := Lib.hid ((B1.out.trans (hL.bel.mono B1.out.size)).alloc (Nat.le_trans B1.out.size hL.bel.size) (.cells #[.int .u8 (c.toNat : Int)] 5)); have T2a := Lib.hid (hL.tl.later ((Below.refl _ _).alloc (Nat.le_refl _) (.cells #[.int .u8 (c.toNat : Int)] 5))); clear hL Q0))
    go_ret
    exact ⟨rfl, B2a.out⟩
set_option maxRecDepth 100000 in
set_option maxHeartbeats 2000000 in
theorem lexOdd_6 (text tail : ByteArray) (c : UInt8) (h1 : text.size ≤ 1048576) (h2 : tail.size ≤ 1048576) (w : World) (hM : Mon w) (hE : Ev w) (hq : c.toNat = 126) :
    Calls Tryd.prog 5 #[.string text, .int .u8 (c.toNat : Int), .string tail] w fun e w' => e = .returned (.bool true) ∧ Below w.heap.size w w' := by
  have KT := Lib.hid (takes_any w hM hE)
  have HM := Lib.hid (p := ∀ W, Below w.heap.size w W → Mon W) (fun W b => mon_below (Nat.le_refl _) b hM)
  have HE := Lib.hid (p := ∀ W, Below w.heap.size w W → Ev W) (fun W b => ev_below hE b)
  obtain ⟨wh, ts, p, er, t1, t2, D⟩ := odd_data text tail c h1 h2 (by unfold oddN; omega)
  have s1 := D.s1
  have s2 := D.s2
  have s3 := D.s3
  have cv := fun W cap t => convOne W t c cap
  have KS := Lib.hid (fun W hM hE => scan_is text (by omega) ts p er D.sc W hM hE)
  have DD := Lib.hid D
  have g1 : (32 : Int) < (c.toNat : Int) := by omega
  have g2 : (c.toNat : Int) < 127 := by omega
  have n34 : ((c.toNat : Int) != 34) = true := by rw [bne_iff_ne]; omega
  have n36 : ((c.toNat : Int) != 36) = true := by rw [bne_iff_ne]; omega
  have n64 : ((c.toNat : Int) != 64) = true := by rw [bne_iff_ne]; omega
  have n94 : ((c.toNat : Int) != 94) = true := by rw [bne_iff_ne]; omega
  have n126 : ((c.toNat : Int) != 126) = false := by rw [hq]; rfl
  have e32 : ((c.toNat : Int) == 32) = false := by rw [beq_eq_false_iff_ne]; omega
  have e9 : ((c.toNat : Int) == 9) = false := by rw [beq_eq_false_iff_ne]; omega
  have e10 : ((c.toNat : Int) == 10) = false := by rw [beq_eq_false_iff_ne]; omega
  have e13 : ((c.toNat : Int) == 13) = false := by rw [beq_eq_false_iff_ne]; omega
  clear hM hE hq D
  by_cases he : er = 0
  · subst he
    by_cases hl : 65536 < wh.size
    · have hl' : (65536 : Int) < (wh.size : Int) := by omega
      go_enter Tryd.func5, Tryd.ntmps5
      go_wp2_with (first
        | (go_at_call 11; refine KT.out.mono ?_; rintro e w1 ⟨rfl, b1⟩; have B1 := Lib.hid b1; clear b1; have Q0 := Lib.hid (p := (1 : Nat) = 1) rfl)
        | (go_at_call 12; have qq := Q0; refine (KS.out _ (HM.out _ B1.out) (HE.out _ B1.out)).mono ?_; rintro e w2 ⟨a, cap, rfl, hL⟩; have B2 := Lib.hid (B1.out.trans (hL.bel.mono B1.out.size)); have T2 := Lib.hid hL.tl; have B2a := Lib.hid ((B1.out.trans (hL.bel.mono B1.out.size)).alloc (Nat.le_trans B1.out.size hL.bel.size) (.cells #[.int .u8 (c.toNat : Int)] 5)); have T2a := Lib.hid (hL.tl.later ((Below.refl _ _).alloc (Nat.le_refl _) (.cells #[.int .u8 (c.toNat : Int)] 5))); clear hL Q0))
      go_ret
      exact ⟨rfl, B2a.out⟩
    · have hl' : ¬ (65536 : Int) < (wh.size : Int) := by omega
      have KW := Lib.hid (fun W hM hE => scan_is wh (by omega) ts (text.size + 1) 61 (DD.out.sw rfl (by omega)) W hM hE)
      have KX := Lib.hid (fun a b c1 c2 W h h' => sameTok_any a b ts.length c1 c2 ts W h h')
      have kw : IntKind.i64.wrap ((text.size : Int) + 1) = (text.size : Int) + 1 := by simp [IntKind.wrap, IntKind.bits, IntKind.signed]; omega
      rw [Int.natCast_add, show ((1 : Nat) : Int) = 1 from rfl] at KW
      go_enter Tryd.func5, Tryd.ntmps5
      go_wp2_with (first
        | (go_at_call 11; refine KT.out.mono ?_; rintro e w1 ⟨rfl, b1⟩; have B1 := Lib.hid b1; clear b1; have Q0 := Lib.hid (p := (1 : Nat) = 1) rfl)
        | (go_at_call 12; have qq := Q0; refine (KS.out _ (HM.out _ B1.out) (HE.out _ B1.out)).mono ?_; rintro e w2 ⟨a, cap, rfl, hL⟩; have B2 := Lib.hid (B1.out.trans (hL.bel.mono B1.out.size)); have T2 := Lib.hid hL.tl; have B2a := Lib.hid ((B1.out.trans (hL.bel.mono B1.out.size)).alloc (Nat.le_trans B1.out.size hL.bel.size) (.cells #[.int .u8 (c.toNat : Int)] 5)); have T2a := Lib.hid (hL.tl.later ((Below.refl _ _).alloc (Nat.le_refl _) (.cells #[.int .u8 (c.toNat : Int)] 5))); clear hL Q0)
        | (go_at_call 12; refine (KW.out _ (HM.out _ B2a.out) (HE.out _ B2a.out)).mono ?_; rintro e w3 ⟨b, cap', rfl, hL⟩; have B3 := Lib.hid (B2a.out.trans (hL.bel.mono B2a.out.size)); have T3 := Lib.hid (T2a.out.later hL.bel); have U3 := Lib.hid hL.tl; clear hL)
        | (go_at_call 14; refine (KX.out _ _ _ _ _ T3.out U3.out).mono ?_; rintro e w4 ⟨rfl, q, rfl⟩))
      go_ret
      exact ⟨rfl, ⟨B3.out.os, B3.out.tape, B3.out.output, B3.out.size, B3.out.block⟩⟩
  · have er0 : (er != 0) = true := by rw [bne_iff_ne]; exact he
    clear he
    go_enter Tryd.func5, Tryd.ntmps5
    go_wp2_with (first
      | (go_at_call 11; refine KT.out.mono ?_; rintro e w1 ⟨rfl, b1⟩; have B1 := Lib.hid b1; clear b1; have Q0 := Lib.hid (p := (1 : Nat) = 1) rfl)
      | (go_at_call 12; have qq := Q0; refine (KS.out _ (HM.out _ B1.out) (HE.out _ B1.out)).mono ?_; rintro e w2 ⟨a, cap, rfl, hL⟩; have B2 := Lib.hid (B1.out.trans (hL.bel.mono B1.out.size)); have T2 := Lib.hid hL.tl; have B2a := Lib.hid ((B1.out.trans (hL.bel.mono B1.out.size)).alloc (Nat.le_trans B1.out.size hL.bel.size) (.cells #[.int .u8 (c.toNat : Int)] 5)); have T2a := Lib.hid (hL.tl.later ((Below.refl _ _).alloc (Nat.le_refl _) (.cells #[.int .u8 (c.toNat : Int)] 5))); clear hL Q0))
    go_ret
    exact ⟨rfl, B2a.out⟩
set_option maxRecDepth 100000 in
set_option maxHeartbeats 2000000 in
theorem lexOdd_7 (text tail : ByteArray) (c : UInt8) (h1 : text.size ≤ 1048576) (h2 : tail.size ≤ 1048576) (w : World) (hM : Mon w) (hE : Ev w) (hq : c.toNat = 92) :
    Calls Tryd.prog 5 #[.string text, .int .u8 (c.toNat : Int), .string tail] w fun e w' => e = .returned (.bool true) ∧ Below w.heap.size w w' := by
  have KT := Lib.hid (takes_any w hM hE)
  have HM := Lib.hid (p := ∀ W, Below w.heap.size w W → Mon W) (fun W b => mon_below (Nat.le_refl _) b hM)
  have HE := Lib.hid (p := ∀ W, Below w.heap.size w W → Ev W) (fun W b => ev_below hE b)
  obtain ⟨wh, ts, p, er, t1, t2, D⟩ := odd_data text tail c h1 h2 (by unfold oddN; omega)
  have s1 := D.s1
  have s2 := D.s2
  have s3 := D.s3
  have cv := fun W cap t => convOne W t c cap
  have KS := Lib.hid (fun W hM hE => scan_is text (by omega) ts p er D.sc W hM hE)
  have DD := Lib.hid D
  have g1 : (32 : Int) < (c.toNat : Int) := by omega
  have g2 : (c.toNat : Int) < 127 := by omega
  have n34 : ((c.toNat : Int) != 34) = true := by rw [bne_iff_ne]; omega
  have n36 : ((c.toNat : Int) != 36) = true := by rw [bne_iff_ne]; omega
  have n64 : ((c.toNat : Int) != 64) = true := by rw [bne_iff_ne]; omega
  have n94 : ((c.toNat : Int) != 94) = true := by rw [bne_iff_ne]; omega
  have n126 : ((c.toNat : Int) != 126) = true := by rw [bne_iff_ne]; omega
  have n92 : ((c.toNat : Int) != 92) = false := by rw [hq]; rfl
  have e32 : ((c.toNat : Int) == 32) = false := by rw [beq_eq_false_iff_ne]; omega
  have e9 : ((c.toNat : Int) == 9) = false := by rw [beq_eq_false_iff_ne]; omega
  have e10 : ((c.toNat : Int) == 10) = false := by rw [beq_eq_false_iff_ne]; omega
  have e13 : ((c.toNat : Int) == 13) = false := by rw [beq_eq_false_iff_ne]; omega
  clear hM hE hq D
  by_cases he : er = 0
  · subst he
    by_cases hl : 65536 < wh.size
    · have hl' : (65536 : Int) < (wh.size : Int) := by omega
      go_enter Tryd.func5, Tryd.ntmps5
      go_wp2_with (first
        | (go_at_call 11; refine KT.out.mono ?_; rintro e w1 ⟨rfl, b1⟩; have B1 := Lib.hid b1; clear b1; have Q0 := Lib.hid (p := (1 : Nat) = 1) rfl)
        | (go_at_call 12; have qq := Q0; refine (KS.out _ (HM.out _ B1.out) (HE.out _ B1.out)).mono ?_; rintro e w2 ⟨a, cap, rfl, hL⟩; have B2 := Lib.hid (B1.out.trans (hL.bel.mono B1.out.size)); have T2 := Lib.hid hL.tl; have B2a := Lib.hid ((B1.out.trans (hL.bel.mono B1.out.size)).alloc (Nat.le_trans B1.out.size hL.bel.size) (.cells #[.int .u8 (c.toNat : Int)] 5)); have T2a := Lib.hid (hL.tl.later ((Below.refl _ _).alloc (Nat.le_refl _) (.cells #[.int .u8 (c.toNat : Int)] 5))); clear hL Q0))
      go_ret
      exact ⟨rfl, B2a.out⟩
    · have hl' : ¬ (65536 : Int) < (wh.size : Int) := by omega
      have KW := Lib.hid (fun W hM hE => scan_is wh (by omega) ts (text.size + 1) 61 (DD.out.sw rfl (by omega)) W hM hE)
      have KX := Lib.hid (fun a b c1 c2 W h h' => sameTok_any a b ts.length c1 c2 ts W h h')
      have kw : IntKind.i64.wrap ((text.size : Int) + 1) = (text.size : Int) + 1 := by simp [IntKind.wrap, IntKind.bits, IntKind.signed]; omega
      rw [Int.natCast_add, show ((1 : Nat) : Int) = 1 from rfl] at KW
      go_enter Tryd.func5, Tryd.ntmps5
      go_wp2_with (first
        | (go_at_call 11; refine KT.out.mono ?_; rintro e w1 ⟨rfl, b1⟩; have B1 := Lib.hid b1; clear b1; have Q0 := Lib.hid (p := (1 : Nat) = 1) rfl)
        | (go_at_call 12; have qq := Q0; refine (KS.out _ (HM.out _ B1.out) (HE.out _ B1.out)).mono ?_; rintro e w2 ⟨a, cap, rfl, hL⟩; have B2 := Lib.hid (B1.out.trans (hL.bel.mono B1.out.size)); have T2 := Lib.hid hL.tl; have B2a := Lib.hid ((B1.out.trans (hL.bel.mono B1.out.size)).alloc (Nat.le_trans B1.out.size hL.bel.size) (.cells #[.int .u8 (c.toNat : Int)] 5)); have T2a := Lib.hid (hL.tl.later ((Below.refl _ _).alloc (Nat.le_refl _) (.cells #[.int .u8 (c.toNat : Int)] 5))); clear hL Q0)
        | (go_at_call 12; refine (KW.out _ (HM.out _ B2a.out) (HE.out _ B2a.out)).mono ?_; rintro e w3 ⟨b, cap', rfl, hL⟩; have B3 := Lib.hid (B2a.out.trans (hL.bel.mono B2a.out.size)); have T3 := Lib.hid (T2a.out.later hL.bel); have U3 := Lib.hid hL.tl; clear hL)
        | (go_at_call 14; refine (KX.out _ _ _ _ _ T3.out U3.out).mono ?_; rintro e w4 ⟨rfl, q, rfl⟩))
      go_ret
      exact ⟨rfl, ⟨B3.out.os, B3.out.tape, B3.out.output, B3.out.size, B3.out.block⟩⟩
  · have er0 : (er != 0) = true := by rw [bne_iff_ne]; exact he
    clear he
    go_enter Tryd.func5, Tryd.ntmps5
    go_wp2_with (first
      | (go_at_call 11; refine KT.out.mono ?_; rintro e w1 ⟨rfl, b1⟩; have B1 := Lib.hid b1; clear b1; have Q0 := Lib.hid (p := (1 : Nat) = 1) rfl)
      | (go_at_call 12; have qq := Q0; refine (KS.out _ (HM.out _ B1.out) (HE.out _ B1.out)).mono ?_; rintro e w2 ⟨a, cap, rfl, hL⟩; have B2 := Lib.hid (B1.out.trans (hL.bel.mono B1.out.size)); have T2 := Lib.hid hL.tl; have B2a := Lib.hid ((B1.out.trans (hL.bel.mono B1.out.size)).alloc (Nat.le_trans B1.out.size hL.bel.size) (.cells #[.int .u8 (c.toNat : Int)] 5)); have T2a := Lib.hid (hL.tl.later ((Below.refl _ _).alloc (Nat.le_refl _) (.cells #[.int .u8 (c.toNat : Int)] 5))); clear hL Q0))
    go_ret
    exact ⟨rfl, B2a.out⟩
set_option maxRecDepth 100000 in
set_option maxHeartbeats 2000000 in
theorem lexOdd_8 (text tail : ByteArray) (c : UInt8) (h1 : text.size ≤ 1048576) (h2 : tail.size ≤ 1048576) (w : World) (hM : Mon w) (hE : Ev w) (hq : c.toNat = 39) :
    Calls Tryd.prog 5 #[.string text, .int .u8 (c.toNat : Int), .string tail] w fun e w' => e = .returned (.bool true) ∧ Below w.heap.size w w' := by
  have KT := Lib.hid (takes_any w hM hE)
  have HM := Lib.hid (p := ∀ W, Below w.heap.size w W → Mon W) (fun W b => mon_below (Nat.le_refl _) b hM)
  have HE := Lib.hid (p := ∀ W, Below w.heap.size w W → Ev W) (fun W b => ev_below hE b)
  obtain ⟨wh, ts, p, er, t1, t2, D⟩ := odd_data text tail c h1 h2 (by unfold oddN; omega)
  have s1 := D.s1
  have s2 := D.s2
  have s3 := D.s3
  have cv := fun W cap t => convOne W t c cap
  have KS := Lib.hid (fun W hM hE => scan_is text (by omega) ts p er D.sc W hM hE)
  have DD := Lib.hid D
  have g1 : (32 : Int) < (c.toNat : Int) := by omega
  have g2 : (c.toNat : Int) < 127 := by omega
  have n34 : ((c.toNat : Int) != 34) = true := by rw [bne_iff_ne]; omega
  have n36 : ((c.toNat : Int) != 36) = true := by rw [bne_iff_ne]; omega
  have n64 : ((c.toNat : Int) != 64) = true := by rw [bne_iff_ne]; omega
  have n94 : ((c.toNat : Int) != 94) = true := by rw [bne_iff_ne]; omega
  have n126 : ((c.toNat : Int) != 126) = true := by rw [bne_iff_ne]; omega
  have n92 : ((c.toNat : Int) != 92) = true := by rw [bne_iff_ne]; omega
  have n39 : ((c.toNat : Int) != 39) = false := by rw [hq]; rfl
  have e32 : ((c.toNat : Int) == 32) = false := by rw [beq_eq_false_iff_ne]; omega
  have e9 : ((c.toNat : Int) == 9) = false := by rw [beq_eq_false_iff_ne]; omega
  have e10 : ((c.toNat : Int) == 10) = false := by rw [beq_eq_false_iff_ne]; omega
  have e13 : ((c.toNat : Int) == 13) = false := by rw [beq_eq_false_iff_ne]; omega
  clear hM hE hq D
  by_cases he : er = 0
  · subst he
    by_cases hl : 65536 < wh.size
    · have hl' : (65536 : Int) < (wh.size : Int) := by omega
      go_enter Tryd.func5, Tryd.ntmps5
      go_wp2_with (first
        | (go_at_call 11; refine KT.out.mono ?_; rintro e w1 ⟨rfl, b1⟩; have B1 := Lib.hid b1; clear b1; have Q0 := Lib.hid (p := (1 : Nat) = 1) rfl)
        | (go_at_call 12; have qq := Q0; refine (KS.out _ (HM.out _ B1.out) (HE.out _ B1.out)).mono ?_; rintro e w2 ⟨a, cap, rfl, hL⟩; have B2 := Lib.hid (B1.out.trans (hL.bel.mono B1.out.size)); have T2 := Lib.hid hL.tl; have B2a := Lib.hid ((B1.out.trans (hL.bel.mono B1.out.size)).alloc (Nat.le_trans B1.out.size hL.bel.size) (.cells #[.int .u8 (c.toNat : Int)] 5)); have T2a := Lib.hid (hL.tl.later ((Below.refl _ _).alloc (Nat.le_refl _) (.cells #[.int .u8 (c.toNat : Int)] 5))); clear hL Q0))
      go_ret
      exact ⟨rfl, B2a.out⟩
    · have hl' : ¬ (65536 : Int) < (wh.size : Int) := by omega
      have KW := Lib.hid (fun W hM hE => scan_is wh (by omega) ts (text.size + 1) 61 (DD.out.sw rfl (by omega)) W hM hE)
      have KX := Lib.hid (fun a b c1 c2 W h h' => sameTok_any a b ts.length c1 c2 ts W h h')
      have kw : IntKind.i64.wrap ((text.size : Int) + 1) = (text.size : Int) + 1 := by simp [IntKind.wrap, IntKind.bits, IntKind.signed]; omega
      rw [Int.natCast_add, show ((1 : Nat) : Int) = 1 from rfl] at KW
      go_enter Tryd.func5, Tryd.ntmps5
      go_wp2_with (first
        | (go_at_call 11; refine KT.out.mono ?_; rintro e w1 ⟨rfl, b1⟩; have B1 := Lib.hid b1; clear b1; have Q0 := Lib.hid (p := (1 : Nat) = 1) rfl)
        | (go_at_call 12; have qq := Q0; refine (KS.out _ (HM.out _ B1.out) (HE.out _ B1.out)).mono ?_; rintro e w2 ⟨a, cap, rfl, hL⟩; have B2 := Lib.hid (B1.out.trans (hL.bel.mono B1.out.size)); have T2 := Lib.hid hL.tl; have B2a := Lib.hid ((B1.out.trans (hL.bel.mono B1.out.size)).alloc (Nat.le_trans B1.out.size hL.bel.size) (.cells #[.int .u8 (c.toNat : Int)] 5)); have T2a := Lib.hid (hL.tl.later ((Below.refl _ _).alloc (Nat.le_refl _) (.cells #[.int .u8 (c.toNat : Int)] 5))); clear hL Q0)
        | (go_at_call 12; refine (KW.out _ (HM.out _ B2a.out) (HE.out _ B2a.out)).mono ?_; rintro e w3 ⟨b, cap', rfl, hL⟩; have B3 := Lib.hid (B2a.out.trans (hL.bel.mono B2a.out.size)); have T3 := Lib.hid (T2a.out.later hL.bel); have U3 := Lib.hid hL.tl; clear hL)
        | (go_at_call 14; refine (KX.out _ _ _ _ _ T3.out U3.out).mono ?_; rintro e w4 ⟨rfl, q, rfl⟩))
      go_ret
      exact ⟨rfl, ⟨B3.out.os, B3.out.tape, B3.out.output, B3.out.size, B3.out.block⟩⟩
  · have er0 : (er != 0) = true := by rw [bne_iff_ne]; exact he
    clear he
    go_enter Tryd.func5, Tryd.ntmps5
    go_wp2_with (first
      | (go_at_call 11; refine KT.out.mono ?_; rintro e w1 ⟨rfl, b1⟩; have B1 := Lib.hid b1; clear b1; have Q0 := Lib.hid (p := (1 : Nat) = 1) rfl)
      | (go_at_call 12; have qq := Q0; refine (KS.out _ (HM.out _ B1.out) (HE.out _ B1.out)).mono ?_; rintro e w2 ⟨a, cap, rfl, hL⟩; have B2 := Lib.hid (B1.out.trans (hL.bel.mono B1.out.size)); have T2 := Lib.hid hL.tl; have B2a := Lib.hid ((B1.out.trans (hL.bel.mono B1.out.size)).alloc (Nat.le_trans B1.out.size hL.bel.size) (.cells #[.int .u8 (c.toNat : Int)] 5)); have T2a := Lib.hid (hL.tl.later ((Below.refl _ _).alloc (Nat.le_refl _) (.cells #[.int .u8 (c.toNat : Int)] 5))); clear hL Q0))
    go_ret
    exact ⟨rfl, B2a.out⟩
set_option maxRecDepth 100000 in
set_option maxHeartbeats 2000000 in
theorem lexOdd_9 (text tail : ByteArray) (c : UInt8) (h1 : text.size ≤ 1048576) (h2 : tail.size ≤ 1048576) (w : World) (hM : Mon w) (hE : Ev w) (hq : c.toNat = 95) :
    Calls Tryd.prog 5 #[.string text, .int .u8 (c.toNat : Int), .string tail] w fun e w' => e = .returned (.bool true) ∧ Below w.heap.size w w' := by
  have KT := Lib.hid (takes_any w hM hE)
  have HM := Lib.hid (p := ∀ W, Below w.heap.size w W → Mon W) (fun W b => mon_below (Nat.le_refl _) b hM)
  have HE := Lib.hid (p := ∀ W, Below w.heap.size w W → Ev W) (fun W b => ev_below hE b)
  obtain ⟨wh, ts, p, er, t1, t2, D⟩ := odd_data text tail c h1 h2 (by unfold oddN; omega)
  have s1 := D.s1
  have s2 := D.s2
  have s3 := D.s3
  have cv := fun W cap t => convOne W t c cap
  have KS := Lib.hid (fun W hM hE => scan_is text (by omega) ts p er D.sc W hM hE)
  have DD := Lib.hid D
  have g1 : (32 : Int) < (c.toNat : Int) := by omega
  have g2 : (c.toNat : Int) < 127 := by omega
  have n34 : ((c.toNat : Int) != 34) = true := by rw [bne_iff_ne]; omega
  have n36 : ((c.toNat : Int) != 36) = true := by rw [bne_iff_ne]; omega
  have n64 : ((c.toNat : Int) != 64) = true := by rw [bne_iff_ne]; omega
  have n94 : ((c.toNat : Int) != 94) = true := by rw [bne_iff_ne]; omega
  have n126 : ((c.toNat : Int) != 126) = true := by rw [bne_iff_ne]; omega
  have n92 : ((c.toNat : Int) != 92) = true := by rw [bne_iff_ne]; omega
  have n39 : ((c.toNat : Int) != 39) = true := by rw [bne_iff_ne]; omega
  have n95 : ((c.toNat : Int) != 95) = false := by rw [hq]; rfl
  have e32 : ((c.toNat : Int) == 32) = false := by rw [beq_eq_false_iff_ne]; omega
  have e9 : ((c.toNat : Int) == 9) = false := by rw [beq_eq_false_iff_ne]; omega
  have e10 : ((c.toNat : Int) == 10) = false := by rw [beq_eq_false_iff_ne]; omega
  have e13 : ((c.toNat : Int) == 13) = false := by rw [beq_eq_false_iff_ne]; omega
  clear hM hE hq D
  by_cases he : er = 0
  · subst he
    by_cases hl : 65536 < wh.size
    · have hl' : (65536 : Int) < (wh.size : Int) := by omega
      go_enter Tryd.func5, Tryd.ntmps5
      go_wp2_with (first
        | (go_at_call 11; refine KT.out.mono ?_; rintro e w1 ⟨rfl, b1⟩; have B1 := Lib.hid b1; clear b1; have Q0 := Lib.hid (p := (1 : Nat) = 1) rfl)
        | (go_at_call 12; have qq := Q0; refine (KS.out _ (HM.out _ B1.out) (HE.out _ B1.out)).mono ?_; rintro e w2 ⟨a, cap, rfl, hL⟩; have B2 := Lib.hid (B1.out.trans (hL.bel.mono B1.out.size)); have T2 := Lib.hid hL.tl; have B2a := Lib.hid ((B1.out.trans (hL.bel.mono B1.out.size)).alloc (Nat.le_trans B1.out.size hL.bel.size) (.cells #[.int .u8 (c.toNat : Int)] 5)); have T2a := Lib.hid (hL.tl.later ((Below.refl _ _).alloc (Nat.le_refl _) (.cells #[.int .u8 (c.toNat : Int)] 5))); clear hL Q0))
      go_ret
      exact ⟨rfl, B2a.out⟩
    · have hl' : ¬ (65536 : Int) < (wh.size : Int) := by omega
      have KW := Lib.hid (fun W hM hE => scan_is wh (by omega) ts (text.size + 1) 61 (DD.out.sw rfl (by omega)) W hM hE)
      have KX := Lib.hid (fun a b c1 c2 W h h' => sameTok_any a b ts.length c1 c2 ts W h h')
      have kw : IntKind.i64.wrap ((text.size : Int) + 1) = (text.size : Int) + 1 := by simp [IntKind.wrap, IntKind.bits, IntKind.signed]; omega
      rw [Int.natCast_add, show ((1 : Nat) : Int) = 1 from rfl] at KW
      go_enter Tryd.func5, Tryd.ntmps5
      go_wp2_with (first
        | (go_at_call 11; refine KT.out.mono ?_; rintro e w1 ⟨rfl, b1⟩; have B1 := Lib.hid b1; clear b1; have Q0 := Lib.hid (p := (1 : Nat) = 1) rfl)
        | (go_at_call 12; have qq := Q0; refine (KS.out _ (HM.out _ B1.out) (HE.out _ B1.out)).mono ?_; rintro e w2 ⟨a, cap, rfl, hL⟩; have B2 := Lib.hid (B1.out.trans (hL.bel.mono B1.out.size)); have T2 := Lib.hid hL.tl; have B2a := Lib.hid ((B1.out.trans (hL.bel.mono B1.out.size)).alloc (Nat.le_trans B1.out.size hL.bel.size) (.cells #[.int .u8 (c.toNat : Int)] 5)); have T2a := Lib.hid (hL.tl.later ((Below.refl _ _).alloc (Nat.le_refl _) (.cells #[.int .u8 (c.toNat : Int)] 5))); clear hL Q0)
        | (go_at_call 12; refine (KW.out _ (HM.out _ B2a.out) (HE.out _ B2a.out)).mono ?_; rintro e w3 ⟨b, cap', rfl, hL⟩; have B3 := Lib.hid (B2a.out.trans (hL.bel.mono B2a.out.size)); have T3 := Lib.hid (T2a.out.later hL.bel); have U3 := Lib.hid hL.tl; clear hL)
        | (go_at_call 14; refine (KX.out _ _ _ _ _ T3.out U3.out).mono ?_; rintro e w4 ⟨rfl, q, rfl⟩))
      go_ret
      exact ⟨rfl, ⟨B3.out.os, B3.out.tape, B3.out.output, B3.out.size, B3.out.block⟩⟩
  · have er0 : (er != 0) = true := by rw [bne_iff_ne]; exact he
    clear he
    go_enter Tryd.func5, Tryd.ntmps5
    go_wp2_with (first
      | (go_at_call 11; refine KT.out.mono ?_; rintro e w1 ⟨rfl, b1⟩; have B1 := Lib.hid b1; clear b1; have Q0 := Lib.hid (p := (1 : Nat) = 1) rfl)
      | (go_at_call 12; have qq := Q0; refine (KS.out _ (HM.out _ B1.out) (HE.out _ B1.out)).mono ?_; rintro e w2 ⟨a, cap, rfl, hL⟩; have B2 := Lib.hid (B1.out.trans (hL.bel.mono B1.out.size)); have T2 := Lib.hid hL.tl; have B2a := Lib.hid ((B1.out.trans (hL.bel.mono B1.out.size)).alloc (Nat.le_trans B1.out.size hL.bel.size) (.cells #[.int .u8 (c.toNat : Int)] 5)); have T2a := Lib.hid (hL.tl.later ((Below.refl _ _).alloc (Nat.le_refl _) (.cells #[.int .u8 (c.toNat : Int)] 5))); clear hL Q0))
    go_ret
    exact ⟨rfl, B2a.out⟩
theorem lexOdd_go (text tail : ByteArray) (a1 : Int) (w1 : (Lit.int .u8 a1).wf = true) (h1 : text.size ≤ 1048576) (h2 : tail.size ≤ 1048576) (w : World) (hM : Mon w) (hE : Ev w) :
    Calls Tryd.prog 5 #[.string text, .int .u8 a1, .string tail] w fun e w' => e = .returned (.bool true) ∧ Below w.heap.size w w' := by
  have hr : 0 ≤ a1 ∧ a1 < 256 := by simp [Lit.wf, IntKind.min, IntKind.max, IntKind.bits, IntKind.signed] at w1; omega
  obtain ⟨c, rfl⟩ : ∃ c : UInt8, a1 = (c.toNat : Int) := ⟨UInt8.ofNat a1.toNat, by simp; omega⟩
  by_cases h : oddN c.toNat
  · unfold oddN at h
    rcases h with h | h | h | h | h | h | h | h | h | h
    · exact lexOdd_0 text tail c h1 h2 w hM hE h
    · exact lexOdd_1 text tail c h1 h2 w hM hE h
    · exact lexOdd_2 text tail c h1 h2 w hM hE h
    · exact lexOdd_3 text tail c h1 h2 w hM hE h
    · exact lexOdd_4 text tail c h1 h2 w hM hE h
    · exact lexOdd_5 text tail c h1 h2 w hM hE h
    · exact lexOdd_6 text tail c h1 h2 w hM hE h
    · exact lexOdd_7 text tail c h1 h2 w hM hE h
    · exact lexOdd_8 text tail c h1 h2 w hM hE h
    · exact lexOdd_9 text tail c h1 h2 w hM hE h
  · exact lexOdd_plain text tail c w hM hE h
end Go.Proofs.YtadcgkfeeakpeaaDoor
