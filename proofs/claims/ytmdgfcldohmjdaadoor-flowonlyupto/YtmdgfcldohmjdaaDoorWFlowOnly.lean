/-
  WALK: FlowOnly.
-/
import Derived.Test.YtmdgfcldohmjdaaDoorWHeads2
import Derived.Test.YtmdgfcldohmjdaaDoorPlainFlowOnly2
namespace Go.Proofs.YtmdgfcldohmjdaaDoor
open Go.RowKit
set_option linter.unusedVariables false
set_option linter.unusedSimpArgs false

theorem ext_seg (s : ByteArray) (a b : Nat) : (s.extract a b).data.toList = (s.data.toList.take b).drop a := by
  rw [ByteArray.data_extract, Array.toList_extract, List.extract_eq_take_drop, List.drop_take]
theorem bytes_eq {x y : ByteArray} (h : x.data.toList = y.data.toList) : x = y := by
  obtain ⟨⟨x⟩⟩ := x; obtain ⟨⟨y⟩⟩ := y
  simp at h
  rw [h]
theorem at8_same {x y : ByteArray} {i : Nat} (h : x.data.toList[i]? = y.data.toList[i]?) : at8 x i = at8 y i := by
  have key : ∀ z : ByteArray, at8 z i = match z.data.toList[i]? with | some c => (c.toNat : Int) | none => 0 := fun z => by
    by_cases q : i < z.size
    · have hl : i < z.data.toList.length := by rw [← size_list]; exact q
      rw [at8_lt q, List.getElem?_eq_getElem hl]
      have : z.data.toList[i] = z[i] := by rw [Array.getElem_toList]; rfl
      simp only [this]
    · rw [at8_end q, List.getElem?_eq_none (by rw [← size_list]; omega)]
  rw [key x, key y, h]
theorem ag_cut {s : ByteArray} {p : Nat} (hp : p ≤ s.size) : Ag s (s.extract 0 p) p ∧ (s.extract 0 p).size = p := by
  have e := ext_seg s 0 p
  rw [List.drop_zero] at e
  have hz : (s.extract 0 p).size = p := by rw [size_list, e, List.length_take, ← size_list]; omega
  refine ⟨⟨fun i hi => at8_same (by rw [e, List.getElem?_take_of_lt hi]), .inr (at8_end (by omega)), fun a c hc => bytes_eq ?_⟩, hz⟩
  rw [ext_seg (s.extract 0 p) a c, ext_seg s a c, e, List.take_take, Nat.min_eq_left hc]
theorem ag_more {s t : ByteArray} {p : Nat} (hp : p < s.size) (z : ByteArray) (hz : z.data.toList = s.data.toList.take (p + 1) ++ t.data.toList) : Ag s z p ∧ p < z.size ∧ z.size = p + 1 + t.size := by
  have l1 : (s.data.toList.take (p + 1)).length = p + 1 := by rw [List.length_take, ← size_list]; omega
  have sz : z.size = p + 1 + t.size := by rw [size_list, hz, List.length_append, l1, ← size_list]
  refine ⟨⟨fun i hi => at8_same ?_, .inl (at8_same ?_), fun a c hc => bytes_eq ?_⟩, by omega, sz⟩
  · rw [hz, List.getElem?_append_left (by omega), List.getElem?_take_of_lt (by omega)]
  · rw [hz, List.getElem?_append_left (by omega), List.getElem?_take_of_lt (by omega)]
  · rw [ext_seg z a c, ext_seg s a c, hz, List.take_append_of_le_length (by omega), List.take_take, Nat.min_eq_left (by omega)]
theorem catB (x y : ByteArray) (h : x.size + y.size ≤ 2097152) (W : World) : (Op.stringOp .add x y).run Tryd.prog W = .ok (.string (x ++ y)) W := by
  simp [Op.stringOp, go_sem]
  omega
/-- Parse where its answer is told ahead. -/
theorem parse_is (s : ByteArray) (hs : s.size ≤ 1048576) (gs : List Fl) (p : Nat) (er : Int) (hR : Run s 0 [] gs p er) (w : World) :
    Calls Tryd.prog 9 #[.string s] w fun e w' => ∃ x c, e = .returned (.tuple #[.slice x gs.length c, .int .i64 (p : Int), .int .i64 er]) ∧ Below w.heap.size w w' ∧ FL w' x gs.length gs := by
  refine (parse_any s w (by unfold maxLen; omega)).mono ?_
  rintro e w' ⟨⟨v, gs', p', er', rfl, hl, ho, hr⟩, hb⟩
  rcases hr with ⟨h1, _⟩ | ⟨_, hr⟩
  · omega
  · obtain ⟨rfl, rfl, rfl⟩ := run_one hr hR
    obtain ⟨x, c, rfl, hf⟩ := fl_of_own ho (by omega)
    exact ⟨x, c, rfl, hb, hf⟩
theorem print_read (s : ByteArray) (hs : s.size ≤ 1048576) (gs : List Fl) (p : Nat) (hR : Run s 0 [] gs p 0) (a : Option Addr) (cap : Nat) (w : World) (h : FL w a gs.length gs) (hP : Pw w.heap.size w) :
    Calls Tryd.prog 10 #[.slice a gs.length cap] w fun e w' => e = .returned (.tuple #[.string s, .int .i64 0]) ∧ Below w.heap.size w w' := by
  obtain ⟨_, rs, e1, e2, e3⟩ := ((run_fwd hR) (Nat.zero_le _)).1 rfl
  rw [List.nil_append] at e1
  subst e1
  have e4 : textL gs = s.data.toList := by
    rw [e2]; unfold seg
    rw [List.drop_zero, List.take_of_length_le (by rw [← size_list]; exact Nat.le_refl _)]
  refine (print_any a gs.length cap gs w h (fun f hf => ?_) hP).mono ?_
  · obtain ⟨v1, v2⟩ := e3 f hf
    obtain ⟨c1, d0, d1⟩ := valI_zero v1
    exact ⟨wf_of (by unfold inR; omega), by rw [(cur_out c1).1]; decide, wf_of (by unfold inR; omega)⟩
  · rintro e w' ⟨⟨t, er, rfl, hS⟩, hb⟩
    refine ⟨?_, hb⟩
    have b0 : badI gs = 0 := bad_none _ (fun i hi => by
      have : gs.getD i default ∈ gs := by rw [show gs.getD i default = gs[i] by simp [List.getD, hi]]; exact List.getElem_mem hi
      exact (e3 _ this).1)
    rcases hS with ⟨h1, _⟩ | ⟨_, h1, _⟩ | ⟨_, _, rfl, rfl⟩
    · exact absurd b0 h1
    · rw [e4, ← size_list] at h1; omega
    · rw [show (⟨(textL gs).toArray⟩ : ByteArray) = s from bytes_eq (by simpa using e4)]
set_option maxRecDepth 100000 in
set_option maxHeartbeats 2000000 in
theorem flowOnly_walk (hsort : SortsN) (text tail : ByteArray) (ht : text.size ≤ 1048576) (hl : tail.size ≤ 1048576) (w : World) (hP : Pw w.heap.size w) :
    Calls Tryd.prog 3 #[.string text, .string tail] w fun e w' => e = .returned (.bool true) ∧ Below w.heap.size w w' := by
  have HP := Lib.hid (p := ∀ W, Below w.heap.size w W → Pw W.heap.size W) (fun W b W2 b2 => hP W2 (b.trans (b2.mono b.size)))
  have KH := Lib.hid (fun W (h : Pw W.heap.size W) => heads_any hsort W h)
  have H0 := Lib.hid (HP.out w (Below.refl _ _))
  clear hP
  by_cases hsum : 1048576 < text.size + tail.size
  · have d1 : (1048576 : Int) < (text.size : Int) + (tail.size : Int) := by omega
    go_enter Tryd.func3, Tryd.ntmps3
    go_wp2_with fail
    go_at_call 8
    refine (KH.out _ H0.out).mono ?_
    rintro e w1 ⟨rfl, b1⟩
    have B1 := Lib.hid b1
    clear b1
    go_wp2_with fail
    go_at_call 8
    refine (KH.out _ (HP.out _ B1.out)).mono ?_
    rintro e w2 ⟨rfl, b2⟩
    have B2 := Lib.hid (B1.out.trans (b2.mono B1.out.size))
    clear b2
    go_wp2
    go_ret
    exact ⟨rfl, B2.out⟩
  · have d1 : ¬ (1048576 : Int) < (text.size : Int) + (tail.size : Int) := by omega
    have KP := Lib.hid (fun W => parse_any text W (by unfold maxLen; omega))
    go_enter Tryd.func3, Tryd.ntmps3
    go_wp2_with fail
    go_at_call 8
    refine (KH.out _ H0.out).mono ?_
    rintro e w1 ⟨rfl, b1⟩
    have B1 := Lib.hid b1
    clear b1
    go_wp2_with fail
    go_at_call 9
    refine (KP.out _).mono ?_
    rintro e w2 ⟨⟨v, gs, p, er, rfl, hgl, ho, hr⟩, b2⟩
    have B2 := Lib.hid (B1.out.trans (b2.mono B1.out.size))
    have hR : Run text 0 [] gs p er := by
      rcases hr with ⟨q, _⟩ | ⟨_, q⟩
      · omega
      · exact q
    obtain ⟨x, c, rfl, hf⟩ := fl_of_own ho (by omega)
    have F2 := Lib.hid hf
    clear b2 ho hr hf
    by_cases he : er = 0
    · subst he
      have hp0 : p = 0 := (((run_fwd hR) (Nat.zero_le _)).1 rfl).1
      subst hp0
      have KQ := Lib.hid (print_read text ht gs 0 hR x c w2 F2.out (HP.out _ B2.out))
      clear hR
      go_wp2_with fail
      go_at_call 10
      refine KQ.out.mono ?_
      rintro e w3 ⟨rfl, b3⟩
      have B3 := Lib.hid (B2.out.trans (b3.mono B2.out.size))
      clear b3
      have ss : (text.toList == text.toList) = true := by simp
      go_wp2
      go_ret
      exact ⟨rfl, B3.out⟩
    · obtain ⟨rfl, rfl, _⟩ := ((run_fwd hR) (Nat.zero_le _)).2 he
      have hpe := run_end hR (Nat.zero_le _)
      obtain ⟨gs', p', e', r', h'⟩ := run_cut hR (Nat.zero_le _) (by decide) (ag_cut hpe).1 (ag_cut hpe).2
      have KC := Lib.hid (fun W => parse_is (text.extract 0 p) (by rw [(ag_cut hpe).2]; omega) gs' p' e' r' W)
      have kp0 : (p : Int) ≤ (text.size : Int) := by omega
      have kp : ¬ (p : Int) < 0 := by omega
      have kp' : decide ((p : Int) < 0) = false := decide_eq_false kp
      have kp2 : ¬ (text.size : Int) < (p : Int) := by omega
      have kp2' : decide ((text.size : Int) < (p : Int)) = false := decide_eq_false kp2
      go_wp2_with fail
      go_at_call 9
      refine (KC.out _).mono ?_
      rintro e w3 ⟨x3, c3, rfl, b3, f3⟩
      have B3 := Lib.hid (B2.out.trans (b3.mono B2.out.size))
      clear b3 f3
      by_cases he' : e' = 0
      · subst he'
        clear h'
        by_cases hpz : p = text.size
        · have kz : (p : Int) = (text.size : Int) := by omega
          subst hpz
          go_wp2
          go_ret
          exact ⟨rfl, B3.out⟩
        · have kz : ¬ (p : Int) = (text.size : Int) := by omega
          have hlt : p < text.size := by omega
          obtain ⟨z, hz⟩ : ∃ z, text.extract 0 (p + 1) ++ tail = z := ⟨_, rfl⟩
          have hzl : z.data.toList = text.data.toList.take (p + 1) ++ tail.data.toList := by
            rw [← hz]
            have := ext_seg text 0 (p + 1)
            rw [List.drop_zero] at this
            rw [← this]
            simp
          obtain ⟨a1, a2, a3⟩ := ag_more hlt z hzl
          have KM := Lib.hid (fun W => parse_is z (by omega) [] p 31 (run_more hR (Nat.zero_le _) (by decide) a1 a2) W)
          have kp3 : (p : Int) + 1 ≤ (text.size : Int) := by omega
          have kp4 : (0 : Int) ≤ (p : Int) + 1 := by omega
          have kp5 : ((p : Int) + 1).toNat = p + 1 := by omega
          have kw : IntKind.i64.wrap ((p : Int) + 1) = (p : Int) + 1 := by simp [IntKind.wrap, IntKind.bits, IntKind.signed]; omega
          have cat := fun W => catB (text.extract 0 (p + 1)) tail (by rw [ByteArray.size_extract]; omega) W
          rw [hz] at cat
          clear hz hzl a1 a2 a3 hR KC
          go_wp2_with fail
          go_at_call 9
          refine (KM.out _).mono ?_
          rintro e w4 ⟨x4, c4, rfl, b4, f4⟩
          have B4 := Lib.hid (B3.out.trans (b4.mono B3.out.size))
          clear b4 f4
          go_wp2
          go_ret
          exact ⟨rfl, B4.out⟩
      · have h2 : p = p' := (h'.resolve_left he').symm
        subst h2
        have ne' : (e' != 0) = true := by rw [bne_iff_ne]; exact he'
        clear h'
        by_cases hpz : p = text.size
        · have kz : (p : Int) = (text.size : Int) := by omega
          subst hpz
          go_wp2
          go_ret
          exact ⟨rfl, B3.out⟩
        · have kz : ¬ (p : Int) = (text.size : Int) := by omega
          have hlt : p < text.size := by omega
          obtain ⟨z, hz⟩ : ∃ z, text.extract 0 (p + 1) ++ tail = z := ⟨_, rfl⟩
          have hzl : z.data.toList = text.data.toList.take (p + 1) ++ tail.data.toList := by
            rw [← hz]
            have := ext_seg text 0 (p + 1)
            rw [List.drop_zero] at this
            rw [← this]
            simp
          obtain ⟨a1, a2, a3⟩ := ag_more hlt z hzl
          have KM := Lib.hid (fun W => parse_is z (by omega) [] p 31 (run_more hR (Nat.zero_le _) (by decide) a1 a2) W)
          have kp3 : (p : Int) + 1 ≤ (text.size : Int) := by omega
          have kp4 : (0 : Int) ≤ (p : Int) + 1 := by omega
          have kp5 : ((p : Int) + 1).toNat = p + 1 := by omega
          have kw : IntKind.i64.wrap ((p : Int) + 1) = (p : Int) + 1 := by simp [IntKind.wrap, IntKind.bits, IntKind.signed]; omega
          have cat := fun W => catB (text.extract 0 (p + 1)) tail (by rw [ByteArray.size_extract]; omega) W
          rw [hz] at cat
          clear hz hzl a1 a2 a3 hR KC
          go_wp2_with fail
          go_at_call 9
          refine (KM.out _).mono ?_
          rintro e w4 ⟨x4, c4, rfl, b4, f4⟩
          have B4 := Lib.hid (B3.out.trans (b4.mono B3.out.size))
          clear b4 f4
          go_wp2
          go_ret
          exact ⟨rfl, B4.out⟩
end Go.Proofs.YtmdgfcldohmjdaaDoor
