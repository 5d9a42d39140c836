import Derived.Test.YthhacbelbkkcmaaXAL
import Derived.Test.YthhacbelbkkcmaaXAM
import Derived.Test.YthhacbelbkkcmaaXAG
namespace Go.Proofs.Ythhacbelbkkcmaa
open Go.RowKit
set_option linter.unusedVariables false
set_option linter.unusedSimpArgs false

def RLineE (r : Option Fl) (k : Nat) (e : Ending) : Prop := (r = none ∧ ∃ (d : Int) (c : ByteArray), e = .returned (.tuple #[.agg #[.int .i64 d, .string c, .int .i64 0], .int .i64 (k : Int), .bool false])) ∨ (∃ f : Fl, r = some f ∧ e = .returned (.tuple #[.agg #[.int .i64 f.d, .string f.c, .int .i64 f.a], .int .i64 (k : Int), .bool true]))
theorem num_out {P : Nat → Bool → Prop} {e : Ending} (h : NumE P e) : ∃ (k : Nat) (wh : Bool), e = .returned (.tuple #[.int .i64 (k : Int), .bool wh]) ∧ RowKit.Hid (P k wh) := by
  obtain ⟨k, wh, h1, h2⟩ := h
  exact ⟨k, wh, h1, h2⟩
theorem nd_size {s : ByteArray} {at_ lim k n : Nat} {wh : Bool} (ha : at_ ≤ s.size) (h : ND s at_ lim k n wh) : k ≤ s.size := by
  rcases h with ⟨a, b, _⟩ | ⟨a, j, b, c, _⟩
  · have : at_ < s.size := Nat.lt_of_not_le fun h => by rw [at8_end (by omega)] at a; omega
    omega
  · refine Nat.le_of_not_lt fun hlt => ?_
    have hj : 0 < j := by omega
    have hp := b.1
    obtain ⟨i, rfl⟩ : ∃ i, j = i + 1 := ⟨j - 1, by omega⟩
    cases hq : preD s at_ lim i with
    | none => rw [preD, hq] at hp; cases hp
    | some m =>
      rw [preD_succ hq, at8_end (by omega)] at hp
      unfold stepD at hp
      rw [if_neg (fun k => by have := k.1; unfold isD at this; omega)] at hp
      cases hp
theorem numS_any (s : ByteArray) (at_ : Nat) (w : World) (ha : at_ ≤ s.size) (hs : s.size ≤ 1048576) :
    Calls Try.prog 55 #[.string s, .int .i64 (at_ : Int), .int .u64 9223372036854775807, .bool true] w fun e w' => NumE (fun k wh => k ≤ s.size ∧ ∃ m, SN s at_ k m wh) e ∧ w' = w := by
  by_cases h45 : at8 s at_ = 45
  · refine (numN s at_ w ha hs h45).mono ?_
    have hk0 : at_ < s.size := Nat.lt_of_not_le fun h => by rw [at8_end (by omega)] at h45; omega
    rintro e w' ⟨⟨k, wh, rfl, h⟩, rfl⟩
    refine ⟨⟨k, wh, rfl, ?_⟩, rfl⟩
    rcases h with ⟨a, b, c⟩ | ⟨a, n, b⟩
    · exact ⟨by omega, 0, .inr (.inl ⟨h45, a, b, c, rfl⟩)⟩
    · exact ⟨nd_size (by omega) b, _, .inr (.inr ⟨h45, a, n, b, rfl⟩)⟩
  · by_cases hk : at_ < s.size
    · refine (numP s at_ w hk hs h45).mono ?_
      rintro e w' ⟨⟨k, wh, rfl, n, h⟩, rfl⟩
      exact ⟨⟨k, wh, rfl, nd_size ha h, n, .inl ⟨h45, n, h, rfl⟩⟩, rfl⟩
    · obtain rfl : at_ = s.size := by omega
      refine (numZ s w hs).mono ?_
      rintro e w' ⟨rfl, rfl⟩
      refine ⟨⟨s.size, false, rfl, Nat.le_refl _, 0, .inl ⟨h45, 0, .inr ⟨by rw [at8_end (by omega)]; omega, 0, ⟨rfl, ?_⟩, rfl, rfl⟩, rfl⟩⟩, rfl⟩
      rw [preD_succ (n := 0) rfl, Nat.add_zero, at8_end (by omega)]
      unfold stepD
      rw [if_neg (fun k => by have := k.1; unfold isD at this; omega)]
/-- What value says of a number that was read. -/
theorem value_nd (s : ByteArray) (at_ k n lim : Nat) (l9 : 9 ≤ lim) (l63 : lim ≤ 9223372036854775807) (w : World) (hk : k ≤ s.size) (hs : s.size ≤ 1048576) (h : ND s at_ lim k n true) :
    Calls Try.prog 56 #[.string (s.extract at_ k)] w fun e w' => e = .returned (.int .i64 (n : Int)) ∧ w' = w := by
  obtain ⟨h1, h2⟩ := nd_pre l9 h
  have sz := ext_size s at_ k hk
  exact value_pos _ lim n l9 l63 w (by omega) (by omega) (by rw [sz, preD_ext s at_ k lim hk _ (by omega)]; exact h2)
theorem value_sn (s : ByteArray) (at_ k : Nat) (m : Int) (w : World) (hk : k ≤ s.size) (hs : s.size ≤ 1048576) (h : SN s at_ k m true) :
    at_ < k ∧ Calls Try.prog 56 #[.string (s.extract at_ k)] w fun e w' => e = .returned (.int .i64 m) ∧ w' = w := by
  rcases h with ⟨a, n, b, rfl⟩ | ⟨_, _, _, c, _⟩ | ⟨a, a1, n, b, rfl⟩
  · exact ⟨(nd_pre (by omega) b).1, value_nd s at_ k n 9223372036854775807 (by omega) (by omega) w hk hs b⟩
  · cases c
  · obtain ⟨h1, h2⟩ := nd_pre (by omega) b
    have sz := ext_size s at_ k hk
    refine ⟨by omega, value_neg _ (k - (at_ + 1)) n w (by omega) (by omega) (by rw [at8_ext s at_ k 0 hk (by omega)]; exact a) ?_⟩
    have key : ∀ j, j ≤ k - (at_ + 1) → preD (s.extract at_ k) 1 9223372036854775808 j = preD s (at_ + 1) 9223372036854775808 j := by
      intro j
      induction j with
      | zero => intro _; rfl
      | succ j ih =>
        intro hj
        rw [preD, preD, ih (by omega), at8_ext s at_ k (1 + j) hk (by omega), show at_ + (1 + j) = at_ + 1 + j by omega]
    rw [key _ (Nat.le_refl _)]
    exact h2

theorem below2 (w : World) (a b : Obj) : Below w.heap.size w ((w.alloc a).alloc b) := ((Below.refl _ _).alloc (Nat.le_refl _) _).alloc (by simp) _

set_option maxRecDepth 100000 in
set_option maxHeartbeats 16000000 in
theorem rline_any (s : ByteArray) (at_ : Nat) (w : World) (ha : at_ ≤ s.size) (hs : s.size ≤ 1048576) :
    Calls Try.prog 40 #[.string s, .int .i64 (at_ : Int)] w fun e w' => ∃ k r, LineS s at_ k r ∧ RLineE r k e ∧ Below w.heap.size w w' := by
  have K1 := Lib.hid (fun W => numU s at_ 1073741824 (by omega) (by omega) W ha hs)
  simp only [Int.cast_ofNat_Int] at K1
  go_enter Try.func40, Try.ntmps40
  go_wp2_with fail
  refine (K1.out _).mono ?_
  rintro e w1 ⟨hn, rfl⟩
  obtain ⟨k1, wh1, rfl, HN⟩ := num_out hn
  clear hn
  cases wh1 with
  | false =>
    have L1 := Lib.hid (p := LineS s at_ k1 none) (by obtain ⟨n, h⟩ := HN.out; exact ⟨k1, n, false, h, .inl ⟨.inl rfl, rfl, rfl⟩⟩)
    go_wp2
    exact bodyPost_ret (v := .tuple #[.agg #[.int .i64 0, .string ⟨#[]⟩, .int .i64 0], .int .i64 ((k1 : Int)), .bool false]) (by simp [results, Try.results40, go_sem]) rfl ⟨k1, none, L1.out, .inl ⟨rfl, _, _, by rw [show ((k1 : Nat) : Int) = (k1 : Int) by omega]⟩, below2 _ _ _⟩
  | true =>
    obtain ⟨d, hd⟩ := HN.out
    have ND1 := Lib.hid hd
    clear hd
    by_cases hka : k1 < s.size
    · have kaa : (k1 : Int) < (s.size : Int) := by omega
      have kba : ¬ (s.size : Int) ≤ (k1 : Int) := by omega
      have kda : decide ((s.size : Int) ≤ (k1 : Int)) = false := decide_eq_false kba
      have kta : ((k1 : Int)).toNat = k1 := by omega
      have kza : ¬ ((k1 : Int)) < 0 := by omega
      obtain ⟨ba, hba⟩ : ∃ b : Nat, s[k1].toNat = b := ⟨_, rfl⟩
      have Ea := Lib.hid (show at8 s (k1) = ba by rw [at8_lt hka, hba])
      by_cases hxa : ba = 32
      · subst hxa
        have Aa := Lib.hid (p := at8 s (k1) = 32) (by rw [Ea.out]; rfl)
        have CUT := fun W => cutS s at_ k1 (by have := nd_le ND1.out; omega) (by omega) hs W
        have KV := Lib.hid (fun W => value_nd s at_ k1 d 1073741824 (by omega) (by omega) W (by omega) hs ND1.out)
        have wc : IntKind.i64.wrap ((k1 : Int) + 1) = (k1 : Int) + 1 := by rw [IntKind.wrap_i64]; omega
        go_wp2_with (go_at_call 56; refine (KV.out _).mono ?_; rintro e w2 ⟨rfl, rfl⟩)
        go_loop [11] (fun a => ∃ i : Nat, i ≤ 3 ∧ a = .int .i64 i ∧ RowKit.Hid (∀ m, m < i → capB (at8 s (k1 + 1 + m)) = true)) (fun a => 3 - (intOf a).toNat)
        case atStart => exact ⟨0, by omega, rfl, fun m hm => absurd hm (by omega)⟩
        case round =>
          obtain ⟨i, hi, rfl, hC⟩ := hrel
          by_cases h3 : i < 3
          · have i3 : (i : Int) < 3 := by omega
            have wi : IntKind.i64.wrap ((k1 : Int) + 1 + i) = (k1 : Int) + 1 + i := by rw [IntKind.wrap_i64]; omega
            have wj : IntKind.i64.wrap ((i : Int) + 1) = (i : Int) + 1 := by rw [IntKind.wrap_i64]; omega
            by_cases hkb : k1 + 1 + i < s.size
            · have kab : (k1 : Int) + 1 + i < (s.size : Int) := by omega
              have kbb : ¬ (s.size : Int) ≤ (k1 : Int) + 1 + i := by omega
              have kdb : decide ((s.size : Int) ≤ (k1 : Int) + 1 + i) = false := decide_eq_false kbb
              have ktb : ((k1 : Int) + 1 + i).toNat = k1 + 1 + i := by omega
              have kzb : ¬ ((k1 : Int) + 1 + i) < 0 := by omega
              obtain ⟨bb, hbb⟩ : ∃ b : Nat, s[k1 + 1 + i].toNat = b := ⟨_, rfl⟩
              have Eb := Lib.hid (show at8 s (k1 + 1 + i) = bb by rw [at8_lt hkb, hbb])
              by_cases x1 : (bb : Int) < 65
              · have CF := Lib.hid (p := capB (at8 s (k1 + 1 + i)) = false) (by rw [Eb.out]; exact decide_eq_false (by omega))
                have L1 := Lib.hid (p := LineS s at_ (k1 + 1 + i) none) ⟨k1, d, true, ND1.out, .inr ⟨rfl, Aa.out, k1 + 1 + i, false, ⟨i, by omega, rfl, hC.out, .inr ⟨rfl, h3, CF.out⟩⟩, .inl ⟨.inl rfl, rfl, rfl⟩⟩⟩
                go_wp2
                exact bodyPost_ret (v := .tuple #[.agg #[.int .i64 d, .string ⟨#[]⟩, .int .i64 0], .int .i64 ((k1 : Int) + 1 + i), .bool false]) (by simp [results, Try.results40, go_sem]) rfl ⟨k1 + 1 + i, none, L1.out, .inl ⟨rfl, _, _, by rw [show ((k1 + 1 + i : Nat) : Int) = (k1 : Int) + 1 + i by omega]⟩, below2 _ _ _⟩
              · by_cases x2 : (90 : Int) < (bb : Int)
                · have CF := Lib.hid (p := capB (at8 s (k1 + 1 + i)) = false) (by rw [Eb.out]; exact decide_eq_false (by omega))
                  have L1 := Lib.hid (p := LineS s at_ (k1 + 1 + i) none) ⟨k1, d, true, ND1.out, .inr ⟨rfl, Aa.out, k1 + 1 + i, false, ⟨i, by omega, rfl, hC.out, .inr ⟨rfl, h3, CF.out⟩⟩, .inl ⟨.inl rfl, rfl, rfl⟩⟩⟩
                  go_wp2
                  exact bodyPost_ret (v := .tuple #[.agg #[.int .i64 d, .string ⟨#[]⟩, .int .i64 0], .int .i64 ((k1 : Int) + 1 + i), .bool false]) (by simp [results, Try.results40, go_sem]) rfl ⟨k1 + 1 + i, none, L1.out, .inl ⟨rfl, _, _, by rw [show ((k1 + 1 + i : Nat) : Int) = (k1 : Int) + 1 + i by omega]⟩, below2 _ _ _⟩
                · have NX := Lib.hid (show ∀ q, q < i + 1 → capB (at8 s (k1 + 1 + q)) = true from fun q hq => by
                    rcases (show q < i ∨ q = i by omega) with z | z
                    · exact hC.out q z
                    · rw [z, Eb.out]; exact decide_eq_true (by omega))
                  go_wp2
                  go_round
                  case rel => exact ⟨i + 1, by omega, by go_num, NX.out⟩
                  case measure => simp [intOf]; omega
            · have kbb : (s.size : Int) ≤ (k1 : Int) + 1 + i := by omega
              have CF := Lib.hid (p := capB (at8 s (k1 + 1 + i)) = false) (by rw [at8_end hkb]; decide)
              have L1 := Lib.hid (p := LineS s at_ (k1 + 1 + i) none) ⟨k1, d, true, ND1.out, .inr ⟨rfl, Aa.out, k1 + 1 + i, false, ⟨i, by omega, rfl, hC.out, .inr ⟨rfl, h3, CF.out⟩⟩, .inl ⟨.inl rfl, rfl, rfl⟩⟩⟩
              go_wp2
              exact bodyPost_ret (v := .tuple #[.agg #[.int .i64 d, .string ⟨#[]⟩, .int .i64 0], .int .i64 ((k1 : Int) + 1 + i), .bool false]) (by simp [results, Try.results40, go_sem]) rfl ⟨k1 + 1 + i, none, L1.out, .inl ⟨rfl, _, _, by rw [show ((k1 + 1 + i : Nat) : Int) = (k1 : Int) + 1 + i by omega]⟩, below2 _ _ _⟩
          · obtain rfl : i = 3 := by omega
            have CS := Lib.hid (p := CurS s (k1 + 1) (k1 + 4) true) ⟨3, by omega, by omega, hC.out, .inl ⟨rfl, rfl⟩⟩
            have z3 : k1 + 4 ≤ s.size := Nat.le_of_not_lt fun h => by have := hC.out 2 (by omega); rw [at8_end (by omega)] at this; revert this; decide
            have cut2 := fun W => cutS s (k1 + 1) (k1 + 4) (by omega) z3 hs W
            simp only [Int.natCast_add, Int.cast_ofNat_Int, Int.natCast_one] at cut2
            rw [show (k1 : Int) + 4 = (k1 : Int) + 1 + 3 by omega] at cut2
            have wp : IntKind.i64.wrap ((k1 : Int) + 1 + 3) = (k1 : Int) + 1 + 3 := by rw [IntKind.wrap_i64]; omega
            by_cases hkc : k1 + 4 < s.size
            · have kac : (k1 : Int) + 1 + 3 < (s.size : Int) := by omega
              have kbc : ¬ (s.size : Int) ≤ (k1 : Int) + 1 + 3 := by omega
              have kdc : decide ((s.size : Int) ≤ (k1 : Int) + 1 + 3) = false := decide_eq_false kbc
              have ktc : ((k1 : Int) + 1 + 3).toNat = k1 + 4 := by omega
              have kzc : ¬ ((k1 : Int) + 1 + 3) < 0 := by omega
              obtain ⟨bc, hbc⟩ : ∃ b : Nat, s[k1 + 4].toNat = b := ⟨_, rfl⟩
              have Ec := Lib.hid (show at8 s (k1 + 4) = bc by rw [at8_lt hkc, hbc])
              by_cases hxc : bc = 32
              · subst hxc
                have Ac := Lib.hid (p := at8 s (k1 + 4) = 32) (by rw [Ec.out]; rfl)
                have K3 := Lib.hid (fun W => numS_any s (k1 + 4 + 1) W (by omega) hs)
                simp only [Int.natCast_add, Int.cast_ofNat_Int, Int.natCast_one] at K3
                rw [show (k1 : Int) + 4 + 1 = (k1 : Int) + 1 + 4 by omega] at K3
                have wq : IntKind.i64.wrap ((k1 : Int) + 1 + 4) = (k1 : Int) + 1 + 4 := by rw [IntKind.wrap_i64]; omega
                go_wp2_with fail
                refine (K3.out _).mono ?_
                rintro e w3 ⟨hn, rfl⟩
                obtain ⟨k3, wh3, rfl, HM⟩ := num_out hn
                clear hn
                obtain ⟨k3s, m, hm⟩ := HM.out
                have SM := Lib.hid hm
                clear hm
                cases wh3 with
                | false =>
                  have L1 := Lib.hid (p := LineS s at_ k3 none) ⟨k1, d, true, ND1.out, .inr ⟨rfl, Aa.out, k1 + 4, true, CS.out, .inr ⟨rfl, Ac.out, k3, m, false, SM.out, .inl ⟨.inl rfl, rfl, rfl⟩⟩⟩⟩
                  go_wp2
                  exact bodyPost_ret (v := .tuple #[.agg #[.int .i64 d, .string (s.extract (k1 + 1) (k1 + 4)), .int .i64 0], .int .i64 ((k3 : Int)), .bool false]) (by simp [results, Try.results40, go_sem]) rfl ⟨k3, none, L1.out, .inl ⟨rfl, _, _, by rw [show ((k3 : Nat) : Int) = (k3 : Int) by omega]⟩, below2 _ _ _⟩
                | true =>
                  by_cases hkd : k3 < s.size
                  · have kad : (k3 : Int) < (s.size : Int) := by omega
                    have kbd : ¬ (s.size : Int) ≤ (k3 : Int) := by omega
                    have kdd : decide ((s.size : Int) ≤ (k3 : Int)) = false := decide_eq_false kbd
                    have ktd : ((k3 : Int)).toNat = k3 := by omega
                    have kzd : ¬ ((k3 : Int)) < 0 := by omega
                    obtain ⟨bd, hbd⟩ : ∃ b : Nat, s[k3].toNat = b := ⟨_, rfl⟩
                    have Ed := Lib.hid (show at8 s (k3) = bd by rw [at8_lt hkd, hbd])
                    by_cases hxd : bd = 10
                    · subst hxd
                      have Ad := Lib.hid (p := at8 s (k3) = 10) (by rw [Ed.out]; rfl)
                      obtain ⟨k3l, KV2⟩ := value_sn s (k1 + 4 + 1) k3 m ((w.alloc (.cells #[.int .i64 0, .string ⟨#[]⟩, .int .i64 0] 40)).alloc (.cells #[.int .i64 d, .string (s.extract (k1 + 1) (k1 + 4)), .int .i64 0] 40)) k3s hs SM.out
                      rw [show k1 + 4 + 1 = k1 + 1 + 4 by omega] at KV2
                      have KW := Lib.hid KV2
                      clear KV2
                      have cut3 := fun W => cutS s (k1 + 1 + 4) k3 (by omega) k3s hs W
                      simp only [Int.natCast_add, Int.cast_ofNat_Int, Int.natCast_one] at cut3
                      have L1 := Lib.hid (p := LineS s at_ (k3 + 1) (some ⟨d, s.extract (k1 + 1) (k1 + 4), m⟩)) ⟨k1, d, true, ND1.out, .inr ⟨rfl, Aa.out, k1 + 4, true, CS.out, .inr ⟨rfl, Ac.out, k3, m, true, SM.out, .inr ⟨rfl, Ad.out, rfl, rfl⟩⟩⟩⟩
                      have wk : IntKind.i64.wrap ((k3 : Int) + 1) = (k3 : Int) + 1 := by rw [IntKind.wrap_i64]; omega
                      go_wp2_with (go_at_call 56; refine KW.out.mono ?_; rintro e w4 ⟨rfl, rfl⟩)
                      exact bodyPost_ret (v := .tuple #[.agg #[.int .i64 d, .string (s.extract (k1 + 1) (k1 + 4)), .int .i64 m], .int .i64 ((k3 : Int) + 1), .bool true]) (by simp [results, Try.results40, go_sem]) rfl ⟨k3 + 1, _, L1.out, .inr ⟨_, rfl, by rw [show ((k3 + 1 : Nat) : Int) = (k3 : Int) + 1 by omega]⟩, below2 _ _ _⟩
                    · have hyd : ((bd : Int) == 10) = false := by simp; omega
                      have hwd : ((bd : Int) != 10) = true := by simp; omega
                      have Ad := Lib.hid (p := at8 s (k3) ≠ 10) (by rw [Ed.out]; omega)
                      clear hyd
                      have L1 := Lib.hid (p := LineS s at_ k3 none) ⟨k1, d, true, ND1.out, .inr ⟨rfl, Aa.out, k1 + 4, true, CS.out, .inr ⟨rfl, Ac.out, k3, m, true, SM.out, .inl ⟨.inr Ad.out, rfl, rfl⟩⟩⟩⟩
                      go_wp2
                      exact bodyPost_ret (v := .tuple #[.agg #[.int .i64 d, .string (s.extract (k1 + 1) (k1 + 4)), .int .i64 0], .int .i64 ((k3 : Int)), .bool false]) (by simp [results, Try.results40, go_sem]) rfl ⟨k3, none, L1.out, .inl ⟨rfl, _, _, by rw [show ((k3 : Nat) : Int) = (k3 : Int) by omega]⟩, below2 _ _ _⟩
                  · have kbd : (s.size : Int) ≤ (k3 : Int) := by omega
                    have Ad := Lib.hid (p := at8 s (k3) ≠ 10) (by rw [at8_end hkd]; omega)
                    have L1 := Lib.hid (p := LineS s at_ k3 none) ⟨k1, d, true, ND1.out, .inr ⟨rfl, Aa.out, k1 + 4, true, CS.out, .inr ⟨rfl, Ac.out, k3, m, true, SM.out, .inl ⟨.inr Ad.out, rfl, rfl⟩⟩⟩⟩
                    go_wp2
                    exact bodyPost_ret (v := .tuple #[.agg #[.int .i64 d, .string (s.extract (k1 + 1) (k1 + 4)), .int .i64 0], .int .i64 ((k3 : Int)), .bool false]) (by simp [results, Try.results40, go_sem]) rfl ⟨k3, none, L1.out, .inl ⟨rfl, _, _, by rw [show ((k3 : Nat) : Int) = (k3 : Int) by omega]⟩, below2 _ _ _⟩
              · have hyc : ((bc : Int) == 32) = false := by simp; omega
                have hwc : ((bc : Int) != 32) = true := by simp; omega
                have Ac := Lib.hid (p := at8 s (k1 + 4) ≠ 32) (by rw [Ec.out]; omega)
                clear hyc
                have L1 := Lib.hid (p := LineS s at_ (k1 + 4) none) ⟨k1, d, true, ND1.out, .inr ⟨rfl, Aa.out, k1 + 4, true, CS.out, .inl ⟨.inr Ac.out, rfl, rfl⟩⟩⟩
                go_wp2
                exact bodyPost_ret (v := .tuple #[.agg #[.int .i64 d, .string (s.extract (k1 + 1) (k1 + 4)), .int .i64 0], .int .i64 ((k1 : Int) + 1 + 3), .bool false]) (by simp [results, Try.results40, go_sem]) rfl ⟨k1 + 4, none, L1.out, .inl ⟨rfl, _, _, by rw [show ((k1 + 4 : Nat) : Int) = (k1 : Int) + 1 + 3 by omega]⟩, below2 _ _ _⟩
            · have kbc : (s.size : Int) ≤ (k1 : Int) + 1 + 3 := by omega
              have Ac := Lib.hid (p := at8 s (k1 + 4) ≠ 32) (by rw [at8_end hkc]; omega)
              have L1 := Lib.hid (p := LineS s at_ (k1 + 4) none) ⟨k1, d, true, ND1.out, .inr ⟨rfl, Aa.out, k1 + 4, true, CS.out, .inl ⟨.inr Ac.out, rfl, rfl⟩⟩⟩
              go_wp2
              exact bodyPost_ret (v := .tuple #[.agg #[.int .i64 d, .string (s.extract (k1 + 1) (k1 + 4)), .int .i64 0], .int .i64 ((k1 : Int) + 1 + 3), .bool false]) (by simp [results, Try.results40, go_sem]) rfl ⟨k1 + 4, none, L1.out, .inl ⟨rfl, _, _, by rw [show ((k1 + 4 : Nat) : Int) = (k1 : Int) + 1 + 3 by omega]⟩, below2 _ _ _⟩
      · have hya : ((ba : Int) == 32) = false := by simp; omega
        have hwa : ((ba : Int) != 32) = true := by simp; omega
        have Aa := Lib.hid (p := at8 s (k1) ≠ 32) (by rw [Ea.out]; omega)
        clear hya
        have L1 := Lib.hid (p := LineS s at_ k1 none) ⟨k1, d, true, ND1.out, .inl ⟨.inr Aa.out, rfl, rfl⟩⟩
        go_wp2
        exact bodyPost_ret (v := .tuple #[.agg #[.int .i64 0, .string ⟨#[]⟩, .int .i64 0], .int .i64 ((k1 : Int)), .bool false]) (by simp [results, Try.results40, go_sem]) rfl ⟨k1, none, L1.out, .inl ⟨rfl, _, _, by rw [show ((k1 : Nat) : Int) = (k1 : Int) by omega]⟩, below2 _ _ _⟩
    · have kba : (s.size : Int) ≤ (k1 : Int) := by omega
      have Aa := Lib.hid (p := at8 s (k1) ≠ 32) (by rw [at8_end hka]; omega)
      have L1 := Lib.hid (p := LineS s at_ k1 none) ⟨k1, d, true, ND1.out, .inl ⟨.inr Aa.out, rfl, rfl⟩⟩
      go_wp2
      exact bodyPost_ret (v := .tuple #[.agg #[.int .i64 0, .string ⟨#[]⟩, .int .i64 0], .int .i64 ((k1 : Int)), .bool false]) (by simp [results, Try.results40, go_sem]) rfl ⟨k1, none, L1.out, .inl ⟨rfl, _, _, by rw [show ((k1 : Nat) : Int) = (k1 : Int) by omega]⟩, below2 _ _ _⟩
end Go.Proofs.Ythhacbelbkkcmaa

namespace Go.Proofs.Ythhacbelbkkcmaa
open Go.RowKit
set_option linter.unusedVariables false
set_option linter.unusedSimpArgs false

theorem own_later3 {w w' : World} {B e s n : Nat} {v : Value} {xs : List Value} (h : w.ownsRow B e s v n xs) (hb : Below w.heap.size w w') : w'.ownsRow B e s v n xs := by
  obtain ⟨h1, h2⟩ := h
  refine ⟨h1, ?_⟩
  rcases h2 with h2 | ⟨g, cap, cur, rfl, hB, hg, r⟩
  · exact .inl h2
  · exact .inr ⟨g, cap, cur, rfl, hB, (hb.block g (Array.getElem?_eq_some_iff.1 hg).1).trans hg, r⟩
theorem line_le {s : ByteArray} {at_ k : Nat} {f : Fl} (h : LineS s at_ k (some f)) : k ≤ s.size := by
  obtain ⟨k1, d, wh1, n1, h⟩ := h
  rcases h with ⟨_, _, c⟩ | ⟨_, _, k2, wh2, n2, h⟩
  · cases c
  rcases h with ⟨_, _, c⟩ | ⟨_, _, k3, m, wh3, n3, h⟩
  · cases c
  rcases h with ⟨_, _, c⟩ | ⟨_, a, b, _⟩
  · cases c
  · have : k3 < s.size := Nat.lt_of_not_le fun h => by rw [at8_end (by omega)] at a; omega
    omega

set_option maxRecDepth 100000 in
set_option maxHeartbeats 4000000 in
theorem rParse_any (s : ByteArray) (w : World) (hs : s.size ≤ maxLen) :
    Calls Try.prog 23 #[.string s] w fun e w' => ParE s w.heap.size w' e ∧ Below w.heap.size w w' := by
  by_cases hl : 1048576 < s.size
  · have hc : (1048576 : Int) < (s.size : Int) := by omega
    go_enter Try.func23, Try.ntmps23
    go_wp2
    exact bodyPost_ret (v := .tuple #[.slice none 0 0, .int .i64 0, .int .i64 6]) (by simp [results, Try.results23, go_sem]) rfl ⟨⟨_, [], 0, 6, rfl, by simp, ⟨rfl, .inl ⟨rfl, rfl⟩⟩, .inl ⟨hl, rfl, rfl, rfl⟩⟩, Below.refl _ _⟩
  · have hc : ¬ (1048576 : Int) < (s.size : Int) := by omega
    have hz : s.size ≤ 1048576 := by omega
    go_enter Try.func23, Try.ntmps23
    go_wp2
    go_loopw [5, 6] (fun v a wr => ∃ (at_ : Nat) (fs : List Fl), fs.length ≤ at_ ∧ at_ ≤ s.size ∧ a = .int .i64 at_ ∧ RowKit.Hid (∀ gs p e, Run s at_ fs gs p e → Run s 0 [] gs p e) ∧ Below w.heap.size w wr ∧ wr.ownsRow w.heap.size 40 3 v fs.length (fcs fs)) (fun v a wr => s.size - (intOf a).toNat)
    case atStart => exact ⟨0, [], by simp, by omega, rfl, fun _ _ _ h => h, Below.refl _ _, rfl, .inl ⟨rfl, rfl⟩⟩
    case round =>
      obtain ⟨at_, fs, fl, ale, rfl, HRun, hB, hO⟩ := hrel
      have BB := Lib.hid hB
      have OO := Lib.hid hO
      clear hB hO
      by_cases hk : at_ < s.size
      · have kc : (at_ : Int) < (s.size : Int) := by omega
        have KL := Lib.hid (rline_any s at_ wr ale hz)
        go_wp2_with fail
        refine KL.out.mono ?_
        rintro e w1 ⟨k, r, hL, hE, hb1⟩
        have LL := Lib.hid hL
        have B1 := Lib.hid (BB.out.trans (hb1.mono BB.out.size))
        have O1 := Lib.hid (own_later3 OO.out hb1)
        clear hb1 hL
        rcases hE with ⟨rfl, zd, zc, rfl⟩ | ⟨f, rfl, rfl⟩
        · have RES := Lib.hid (HRun.out _ _ _ (Run.bad hk LL.out))
          go_wp2
          exact bodyPost_ret (v := .tuple #[.slice none 0 0, .int .i64 (k : Int), .int .i64 31]) (by simp [results, Try.results23, go_sem]) rfl ⟨⟨_, [], k, 31, rfl, by simp, ⟨rfl, .inl ⟨rfl, rfl⟩⟩, .inr ⟨hz, RES.out⟩⟩, B1.out.alloc B1.out.size _⟩
        · obtain ⟨fd, fc, fa⟩ := f
          have lt := line_lt LL.out
          have ks : k ≤ s.size := line_le LL.out
          have ST := Lib.hid (p := ∀ gs p e, Run s k (fs ++ [⟨fd, fc, fa⟩]) gs p e → Run s 0 [] gs p e) (fun gs p e r => HRun.out gs p e (Run.step hk LL.out r))
          go_wp2_with (at_builtin; refine wp_flow _ fd fa fc rfl _ _ rfl w.heap.size _ fs rfl (by simp only [World.size_alloc]; rfl) (O1.out.alloc _) (by omega) (Nat.le_trans B1.out.size (by simp)) ?_; intro v' w2 ho hg)
          refine ⟨⟨k, fs ++ [⟨fd, fc, fa⟩], by simp; omega, ks, rfl, ST, ((B1.out.alloc B1.out.size _).alloc (Nat.le_trans B1.out.size (by simp)) _).grown hg (Nat.le_trans B1.out.size (by simp; omega)) (fun i e => (OO.out.lt i e).1), ho⟩, ?_⟩
          simp [intOf]
          omega
      · have kc : ¬ (at_ : Int) < (s.size : Int) := by omega
        have RES := Lib.hid (HRun.out _ _ _ (Run.stop hk))
        go_wp2
        exact bodyPost_ret (v := .tuple #[u5, .int .i64 0, .int .i64 0]) (by simp [results, Try.results23, go_sem]) rfl ⟨⟨_, fs, 0, 0, rfl, by omega, OO.out, .inr ⟨hz, RES.out⟩⟩, BB.out⟩
end Go.Proofs.Ythhacbelbkkcmaa

namespace Go.Proofs.Ythhacbelbkkcmaa
open Go.RowKit
set_option linter.unusedVariables false
set_option linter.unusedSimpArgs false

/-- What Parse answers, apart. -/
def ParS (s : ByteArray) (gs : List Fl) (p : Nat) (er : Int) : Prop := (1048576 < s.size ∧ gs = [] ∧ p = 0 ∧ er = 6) ∨ (s.size ≤ 1048576 ∧ Run s 0 [] gs p er)
theorem par_one {s : ByteArray} {gs gs' : List Fl} {p p' : Nat} {er er' : Int} (h : ParS s gs p er) (h' : ParS s gs' p' er') : gs = gs' ∧ p = p' ∧ er = er' := by
  rcases h with ⟨a, b, c, d⟩ | ⟨a, b⟩ <;> rcases h' with ⟨a', b', c', d'⟩ | ⟨a', b'⟩
  · exact ⟨by rw [b, b'], by omega, by omega⟩
  · omega
  · omega
  · exact run_one b b'
theorem par_out {s : ByteArray} {B : Nat} {w : World} {e : Ending} (h : ParE s B w e) : ∃ (a : Option Addr) (cap : Nat) (gs : List Fl) (p : Nat) (er : Int), e = .returned (.tuple #[.slice a gs.length cap, .int .i64 (p : Int), .int .i64 er]) ∧ RowKit.Hid (FL w a gs.length gs ∧ ParS s gs p er) := by
  obtain ⟨v, gs, p, er, rfl, h1, h2, h3⟩ := h
  obtain ⟨a, cap, rfl, hf⟩ := fl_of_own h2 (by omega)
  exact ⟨a, cap, gs, p, er, rfl, hf, h3⟩

end Go.Proofs.Ythhacbelbkkcmaa
