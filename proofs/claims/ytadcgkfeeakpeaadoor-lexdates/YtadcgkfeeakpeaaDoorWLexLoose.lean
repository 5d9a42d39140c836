/-
  WALKS: loose, tells.
-/
import Derived.Test.YtadcgkfeeakpeaaDoorWLexFirst
import Derived.Test.YtadcgkfeeakpeaaDoorPlainTells
namespace Go.Proofs.YtadcgkfeeakpeaaDoor
open Go.RowKit Lx
set_option linter.unusedVariables false
set_option linter.unusedSimpArgs false

theorem loose_next (s : ByteArray) (k : Nat) (hk : k < s.size) (o : Bool) : looseF o ((lst s).drop k) = if s[k].toNat = 10 then looseF false ((lst s).drop (k + 1)) else if s[k].toNat = 35 then looseF true ((lst s).drop (k + 1)) else if o = false ∧ s[k].toNat ≠ 32 ∧ s[k].toNat ≠ 9 ∧ s[k].toNat ≠ 13 then none else looseF o ((lst s).drop (k + 1)) := by
  have hl : k < (lst s).length := by rw [lst_len]; exact hk
  rw [List.drop_eq_getElem_cons hl]
  have e : ((lst s)[k]'hl).toNat = (s[k]'hk).toNat := by
    have := nth_lst hk
    simp only [nthN] at this
    rw [List.getD_eq_getElem?_getD, List.getElem?_eq_getElem hl, Option.getD_some] at this
    exact this
  generalize (lst s)[k]'hl = c at e ⊢
  rw [← e]
  rfl
abbrev looseEnd (r : Option Bool) : Ending := .returned (.tuple #[.bool r.isSome, .bool (r.getD false)])
theorem lEnd_no {r : Option Bool} (h : r = none) : .returned (.tuple #[.bool false, .bool false]) = looseEnd r := by rw [h]; rfl
theorem lEnd_yes {r : Option Bool} {o : Bool} (h : r = some o) : .returned (.tuple #[.bool true, .bool o]) = looseEnd r := by rw [h]; rfl
set_option maxHeartbeats 2000000 in
theorem loose_any (s : ByteArray) (w : World) (hs : s.size ≤ 9223372036854775806) :
    Calls Tryd.prog 13 #[.string s] w fun e w' => e = looseEnd (looseF false (lst s)) ∧ w' = w := by
  obtain ⟨R, hR⟩ : ∃ R, looseF false (lst s) = R := ⟨_, rfl⟩
  have HR := Lib.hid hR
  rw [hR]
  clear hR
  go_enter Tryd.func13, Tryd.ntmps13
  go_wp2
  go_loop [4, 5] (fun x t => ∃ (k : Nat) (o : Bool), k ≤ s.size ∧ x = .bool o ∧ t = .int .i64 k ∧ RowKit.Hid (looseF o ((lst s).drop k) = R)) (fun _ t => s.size - intV t)
  case atStart => exact ⟨0, false, by omega, rfl, rfl, HR.out⟩
  case round =>
    obtain ⟨k, o, hk, rfl, rfl, hN⟩ := hrel
    by_cases hlt : k < s.size
    · have kc : (k : Int) < (s.size : Int) := by omega
      have E := loose_next s k hlt o
      rw [hN.out] at E
      have kw : IntKind.i64.wrap ((k : Int) + 1) = (k : Int) + 1 := by simp [IntKind.wrap, IntKind.bits, IntKind.signed]; omega
      have ME := Lib.hid (p := s.size - intV (.int .i64 ((k : Int) + 1)) < s.size - intV (.int .i64 (k : Int))) (by simp only [intV]; omega)
      obtain ⟨c, hc⟩ : ∃ c : Nat, s[k].toNat = c := ⟨_, rfl⟩
      rw [hc] at E
      clear hN
      by_cases h10 : c = 10
      · have q10 : (c : Int) = 10 := by omega
        rw [if_pos h10] at E
        have Y := Lib.hid E.symm
        subst h10
        clear E q10
        go_wp2
        go_round
        case rel => exact ⟨k + 1, false, by omega, rfl, by simp, Y.out⟩
        case measure => exact ME.out
      · have q10 : ¬ (c : Int) = 10 := by omega
        rw [if_neg h10] at E
        by_cases h35 : c = 35
        · rw [if_pos h35] at E
          have Y := Lib.hid E.symm
          subst h35
          clear E q10 h10
          go_wp2
          go_round
          case rel => exact ⟨k + 1, true, by omega, rfl, by simp, Y.out⟩
          case measure => exact ME.out
        · have q35 : ¬ (c : Int) = 35 := by omega
          rw [if_neg h35] at E
          cases o with
          | true =>
            rw [if_neg (by simp)] at E
            have Y := Lib.hid E.symm
            clear E h10 h35
            go_wp2
            go_round
            case rel => exact ⟨k + 1, true, by omega, rfl, by simp, Y.out⟩
            case measure => exact ME.out
          | false =>
            by_cases hb : c ≠ 32 ∧ c ≠ 9 ∧ c ≠ 13
            · rw [if_pos ⟨rfl, hb⟩] at E
              have Y := Lib.hid (lEnd_no E)
              have b1 : ((c : Int) != 32) = true := by rw [bne_iff_ne]; omega
              have b2 : ((c : Int) != 9) = true := by rw [bne_iff_ne]; omega
              have b3 : ((c : Int) != 13) = true := by rw [bne_iff_ne]; omega
              clear E h10 h35 hb
              go_wp2
              go_ret2
              exact ⟨Y.out, rfl⟩
            · rw [if_neg (by rintro ⟨_, q⟩; exact hb q)] at E
              have Y := Lib.hid E.symm
              have hb' : c = 32 ∨ c = 9 ∨ c = 13 := by omega
              clear E h10 h35 hb q10 q35
              rcases hb' with rfl | rfl | rfl
              all_goals
                go_wp2
                go_round
                case rel => exact ⟨k + 1, false, by omega, rfl, by simp, Y.out⟩
                case measure => exact ME.out
    · obtain rfl : k = s.size := by omega
      have E := hN.out
      rw [List.drop_eq_nil_of_le (by rw [lst_len]; exact Nat.le_refl _)] at E
      have Y := Lib.hid (lEnd_yes E.symm)
      clear hN E
      go_wp2
      go_ret2
      exact ⟨Y.out, rfl⟩
theorem cutMid (s : ByteArray) (a b : Int) (h0 : 0 ≤ a) (h1 : a ≤ b) (hb : b ≤ s.size) (W : World) : (Instr.slice 9 (.string s) (some (.int .i64 a)) (some (.int .i64 b)) none).run Tryd.prog W = .ok (.string (bs (((lst s).take b.toNat).drop a.toNat))) W := by
  rw [run_slice_string W 9 s .i64 .i64 a b (by kernel_rfl) h0 h1 hb]
  have : s.extract a.toNat b.toNat = bs (((lst s).take b.toNat).drop a.toNat) := by
    rw [← ext_lst, show (s.extract a.toNat b.toNat).data.toList = lst (s.extract a.toNat b.toNat) from rfl, bs_lst]
  rw [this]
/-- What holds of a list from a place on. -/
theorem tell_at {l : L} {ts : List Tok} {at_ en k : Nat} (h : Tell l at_ (ts.drop k) en) (hk : k < ts.length) : ∃ a : Nat, (ts.getD k default).a = (a : Int) ∧ at_ ≤ a ∧ 0 < (ts.getD k default).t.length ∧ a + (ts.getD k default).t.length ≤ l.length ∧ (l.take (a + (ts.getD k default).t.length)).drop a = (ts.getD k default).t ∧ looseF false ((l.take a).drop at_) = some false ∧ Tell l (a + (ts.getD k default).t.length) (ts.drop (k + 1)) en := by
  rw [List.drop_eq_getElem_cons hk] at h
  rw [show ts.getD k default = ts[k] by simp [List.getD, hk]]
  exact h
theorem below_nq1 {B : Nat} {a w : World} {n : Nat} (h : Below B a w) : Below B a (w.drewN n) := ⟨h.os, h.tape, h.output, h.size, h.block⟩
set_option maxRecDepth 100000 in
set_option maxHeartbeats 4000000 in
theorem tells_any (s : ByteArray) (a : Option Addr) (n cap en : Nat) (ts : List Tok) (w : World) (hs : s.size ≤ 65536) (h : TL w a n ts) (hT : Tell (lst s) 0 ts en) :
    Calls Tryd.prog 15 #[.string s, .slice a n cap, .int .i64 (en : Int)] w fun e w' => e = .returned (.bool true) ∧ Below w.heap.size w w' := by
  have HT := Lib.hid h
  have hn := h.2.1
  have hln := h.1
  have T0 := Lib.hid hT
  clear h hT
  go_enter Tryd.func15, Tryd.ntmps15
  go_wp2
  go_loopw [7, 8] (fun x t wr => ∃ (p k : Nat), k ≤ n ∧ p ≤ s.size ∧ x = .int .i64 (p : Int) ∧ t = .int .i64 (k : Int) ∧ RowKit.Hid (Tell (lst s) p (ts.drop k) en) ∧ Below w.heap.size w wr) (fun _ t _ => n - intV t)
  case atStart => exact ⟨0, 0, by omega, by omega, rfl, rfl, T0.out, Below.refl _ _⟩
  case round =>
    obtain ⟨p, k, hk, hp, rfl, rfl, hN, hB⟩ := hrel
    rename World => wr
    have BB := Lib.hid hB
    by_cases hlt : k < n
    · obtain ⟨x, o, rfl, hx, hc⟩ : ∃ x o, a = some ⟨x, o, none⟩ ∧ x < w.heap.size ∧ ∀ i, i < n → TK w x (o + i * 9) (ts.getD i default) := by
        rcases HT.out.2.2 with h0 | h0
        · omega
        · exact h0
      obtain ⟨x0, x1, x2, x3, x4, x5, x6, x7, x8⟩ := (hc k hlt).later hB hx
      obtain ⟨q, t1, t2, t3, t4, t5, t6, t7⟩ := tell_at hN.out (by omega)
      rw [lst_len] at t4
      generalize ts.getD k default = f at *
      obtain ⟨tk, tt, ta, tn, ty, tm, td, tnn, tu⟩ := f
      simp only at x0 x1 x2 x3 x4 x5 x6 x7 x8 t1 t3 t4 t5 t7
      subst t1
      obtain ⟨st, hst⟩ : ∃ st, bs tt = st := ⟨_, rfl⟩
      have zs : st.size = tt.length := by rw [← hst, bs_size]
      rw [hst] at x1
      rw [← zs] at t3 t4 t5 t7
      have s1 := cutMid s (q : Int) ((q : Int) + (st.size : Int)) (by omega) (by omega) (by omega)
      rw [show ((q : Int) + (st.size : Int)).toNat = q + st.size by omega, Int.toNat_natCast, t5, hst] at s1
      have s2 := cutMid s (p : Int) (q : Int) (by omega) (by omega) (by omega)
      rw [Int.toNat_natCast, Int.toNat_natCast] at s2
      obtain ⟨sg, hsg⟩ : ∃ sg, bs (((lst s).take q).drop p) = sg := ⟨_, rfl⟩
      have zg : sg.size ≤ 65536 := by rw [← hsg, bs_size, List.length_drop, List.length_take, lst_len]; omega
      have KL := Lib.hid (fun W => loose_any sg W (by omega))
      rw [show lst sg = ((lst s).take q).drop p by rw [← hsg, lst_bs], t6] at KL
      change RowKit.Hid (∀ W, Calls Tryd.prog 13 #[.string sg] W fun e w' => e = .returned (.tuple #[.bool true, .bool false]) ∧ w' = W) at KL
      rw [hsg] at s2
      have NX := Lib.hid t7
      have kc : (k : Int) < (n : Int) := by omega
      have kw : IntKind.i64.wrap ((k : Int) + 1) = (k : Int) + 1 := by simp [IntKind.wrap, IntKind.bits, IntKind.signed]; omega
      have kw2 : IntKind.i64.wrap ((q : Int) + (st.size : Int)) = (q : Int) + (st.size : Int) := by simp [IntKind.wrap, IntKind.bits, IntKind.signed]; omega
      have kw3 : IntKind.i64.wrap ((s.size : Int) - (q : Int)) = (s.size : Int) - (q : Int) := by simp [IntKind.wrap, IntKind.bits, IntKind.signed]; omega
      have g1 : decide ((q : Int) < (p : Int)) = false := decide_eq_false (by omega)
      have g1' : decide (q < p) = false := decide_eq_false (by omega)
      have g2 : st.toList.isEmpty = false := by rw [← hst]; unfold bs; rw [ByteArray.toList_mk]; cases tt with
        | nil => rw [zs] at t3; exact absurd t3 (by simp)
        | cons c r => simp
      have g3 : decide ((s.size : Int) - (q : Int) < (st.size : Int)) = false := decide_eq_false (by omega)
      have ME := Lib.hid (p := n - intV (.int .i64 ((k : Int) + 1)) < n - intV (.int .i64 (k : Int))) (by simp only [intV]; omega)
      clear hc hN t2 t5 t6 t7 hst hsg zs hB
      obtain ⟨w5, hw5⟩ : ∃ w5, wr.alloc (.cells #[.int .i64 tk, .string st, .int .i64 (q : Int), .int .i64 tn, .int .i64 ty, .int .i64 tm, .int .i64 td, .int .i64 tnn, .int .i64 tu] 34) = w5 := ⟨_, rfl⟩
      obtain ⟨y0, y1, y2, y3, y4, y5, y6, y7, y8, yf⟩ : TB w5 wr.heap.size (.int .i64 tk) (.string st) (.int .i64 (q : Int)) (.int .i64 tn) (.int .i64 ty) (.int .i64 tm) (.int .i64 td) (.int .i64 tnn) (.int .i64 tu) := by rw [← hw5]; exact box_tok (World.alloc_heap_new wr _)
      have B5 := Lib.hid (p := Below w.heap.size w w5) (by rw [← hw5]; exact BB.out.alloc BB.out.size _)
      go_wp2
      try rw [hw5]
      go_quiet (fail)
      go_wp2_with (go_at_call 13; refine (KL.out _).mono ?_; rintro e w' ⟨rfl, rfl⟩)
      go_roundw
      case rel => exact ⟨q + st.size, k + 1, by omega, by omega, by simp, by simp, NX.out, below_nq1 B5.out⟩
      case measure => exact ME.out
    · obtain rfl : k = n := by omega
      have E := hN.out
      rw [List.drop_eq_nil_of_le (by omega)] at E
      obtain ⟨e1, e2, o, e3⟩ := E
      rw [lst_len] at e2
      have s2 := cutMid s (p : Int) (en : Int) (by omega) (by omega) (by omega)
      rw [Int.toNat_natCast, Int.toNat_natCast] at s2
      obtain ⟨sg, hsg⟩ : ∃ sg, bs (((lst s).take en).drop p) = sg := ⟨_, rfl⟩
      have zg : sg.size ≤ 65536 := by rw [← hsg, bs_size, List.length_drop, List.length_take, lst_len]; omega
      have KL := Lib.hid (fun W => loose_any sg W (by omega))
      rw [show lst sg = ((lst s).take en).drop p by rw [← hsg, lst_bs], e3] at KL
      change RowKit.Hid (∀ W, Calls Tryd.prog 13 #[.string sg] W fun e w' => e = .returned (.tuple #[.bool true, .bool o]) ∧ w' = W) at KL
      rw [hsg] at s2
      have g1 : ¬ (en : Int) < (p : Int) := by omega
      clear hN e1 e2 e3 hsg hB
      go_wp2_with (go_at_call 13; refine (KL.out _).mono ?_; rintro e w' ⟨rfl, rfl⟩)
      go_ret
      exact ⟨rfl, BB.out⟩
end Go.Proofs.YtadcgkfeeakpeaaDoor
