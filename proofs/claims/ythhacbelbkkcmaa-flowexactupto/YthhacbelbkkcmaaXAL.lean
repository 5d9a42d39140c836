import Derived.Test.YthhacbelbkkcmaaXAJ
import Derived.Test.YthhacbelbkkcmaaXAK
namespace Go.Proofs.Ythhacbelbkkcmaa
open Go.RowKit
set_option linter.unusedVariables false
set_option linter.unusedSimpArgs false

theorem at8_ext (s : ByteArray) (i j m : Nat) (hj : j ≤ s.size) (hm : m < j - i) : at8 (s.extract i j) m = at8 s (i + m) := by
  have h1 : m < (s.extract i j).size := by simp; omega
  have h2 : i + m < s.size := by omega
  rw [at8_lt h1, at8_lt h2]
  congr 2
  simp [ByteArray.getElem_extract]
theorem preD_ext (s : ByteArray) (i j lim : Nat) (hj : j ≤ s.size) : ∀ m, m ≤ j - i → preD (s.extract i j) 0 lim m = preD s i lim m
  | 0, _ => rfl
  | m + 1, h => by
    rw [preD, preD, preD_ext s i j lim hj m (by omega), Nat.zero_add, at8_ext s i j m hj (by omega)]
theorem ext_size (s : ByteArray) (i j : Nat) (hj : j ≤ s.size) : (s.extract i j).size = j - i := by simp; omega
theorem beg_ext (s : ByteArray) (i j lim : Nat) (hj : i + j + 1 ≤ s.size) : begB (s.extract i (i + j + 1)) lim = if at8 s i = 48 then decide (j = 0) else (preD s i lim (j + 1)).isSome := by
  unfold begB
  rw [at8_ext s i (i + j + 1) 0 (by omega) (by omega), Nat.add_zero, ext_size s i _ (by omega), preD_ext s i _ lim (by omega) _ (by omega), show i + j + 1 - i = j + 1 by omega]
  congr 1
  apply decide_eq_decide.2
  omega
theorem one_text {t : ByteArray} (h : t.toList = [48]) : t.size = 1 ∧ at8 t 0 = 48 := by
  obtain ⟨a⟩ := t
  rw [Go.ByteArray.toList_eq] at h
  have : a = #[48] := by
    obtain ⟨l⟩ := a
    simp at h
    rw [h]
  subst this
  exact ⟨rfl, rfl⟩
theorem text_one {t : ByteArray} (h1 : t.size = 1) (h2 : at8 t 0 = 48) : t.toList = [48] := by
  obtain ⟨a⟩ := t
  rw [Go.ByteArray.toList_eq]
  obtain ⟨l⟩ := a
  match l, h1 with
  | [x], _ =>
    have hx : (x.toNat : Int) = 48 := h2
    have : x = 48 := UInt8.toNat_inj.1 (by have : x.toNat = 48 := by omega
                                           rw [this]; rfl)
    rw [this]
theorem not_zero_text (s : ByteArray) (i j : Nat) (hj : i + j + 1 ≤ s.size) (h0 : at8 s i ≠ 48) : ((s.extract i (i + j + 1)).toList == [48]) = false := by
  cases h : ((s.extract i (i + j + 1)).toList == [48]) with
  | false => rfl
  | true =>
    exfalso
    obtain ⟨_, e2⟩ := one_text (eq_of_beq h)
    rw [at8_ext s i _ 0 (by omega) (by omega), Nat.add_zero] at e2
    exact h0 e2
theorem zero_text (s : ByteArray) (i : Nat) (hj : i + 1 ≤ s.size) (h0 : at8 s i = 48) : ((s.extract i (i + 1)).toList == [48]) = true := by
  rw [text_one (by rw [ext_size s i _ hj]; omega) (by rw [at8_ext s i _ 0 hj (by omega), Nat.add_zero]; exact h0)]
  rfl

/-- How number ends. -/
def NumE (P : Nat → Bool → Prop) (e : Ending) : Prop := ∃ (k : Nat) (wh : Bool), e = .returned (.tuple #[.int .i64 (k : Int), .bool wh]) ∧ P k wh
theorem ret_kb {n : Int} {a b : Bool} (h : a = b) : Ending.returned (.tuple #[.int .i64 n, .bool a]) = .returned (.tuple #[.int .i64 n, .bool b]) := by rw [h]
set_option maxRecDepth 100000 in
set_option maxHeartbeats 4000000 in
theorem numU (s : ByteArray) (at_ : Nat) (lim : Nat) (l9 : 9 ≤ lim) (l64 : lim ≤ 9223372036854775807) (w : World) (ha : at_ ≤ s.size) (hs : s.size ≤ 1048576) :
    Calls Try.prog 55 #[.string s, .int .i64 (at_ : Int), .int .u64 (lim : Int), .bool false] w fun e w' => NumE (fun k wh => ∃ n, ND s at_ lim k n wh) e ∧ w' = w := by
  have KB := Lib.hid (fun j (h : at_ + j + 1 ≤ s.size) W => begins_any (s.extract (at_) (at_ + j + 1)) lim (by omega) (by omega) W (by rw [ext_size s _ _ h]; omega) (by rw [ext_size s _ _ h]; omega))
  by_cases h48 : at8 s (at_) = 48
  · have Z0 := Lib.hid h48
    clear h48
    have hz0 : at_ < s.size := Nat.lt_of_not_le fun h => by have := Z0.out; rw [at8_end (by omega)] at this; omega
    go_enter Try.func55, Try.ntmps55
    go_wp2
    go_loop [11] (fun a => ∃ j : Nat, j ≤ 1 ∧ a = .int .i64 ((at_ : Int) + j)) (fun a => at_ + 1 - (intOf a).toNat)
    case atStart => exact ⟨0, by omega, by simp⟩
    case round =>
      obtain ⟨j, hj, rfl⟩ := hrel
      rcases (show j = 0 ∨ j = 1 by omega) with rfl | rfl
      · have KJ := Lib.hid (fun W => KB.out 0 (by omega) W)
        rw [beg_ext s (at_) 0 lim (by omega), if_pos Z0.out, decide_eq_true rfl] at KJ
        have cut := fun W => cutS s at_ (at_ + 0 + 1) (by omega) (by omega) hs W
        simp only [Nat.add_zero, Int.natCast_add, Int.natCast_one] at cut KJ
        have kc : (at_ : Int) < (s.size : Int) := by omega
        have w5 : IntKind.i64.wrap ((at_ : Int) + 1) = (at_ : Int) + 1 := by simp [IntKind.wrap, IntKind.bits, IntKind.signed]; omega
        simp only [Int.natCast_zero, Int.add_zero]
        go_wp2_with (go_at_call 63; refine (KJ.out _).mono ?_; rintro e w' ⟨rfl, rfl⟩)
        go_round
        case rel => exact ⟨1, by omega, by first | rfl | simp⟩
        case measure => simp [intOf]
      · by_cases hk : at_ + 1 < s.size
        · have KJ := Lib.hid (fun W => KB.out 1 (by omega) W)
          rw [beg_ext s (at_) 1 lim (by omega), if_pos Z0.out, decide_eq_false (by omega)] at KJ
          have cut := fun W => cutS s at_ (at_ + 1 + 1) (by omega) (by omega) hs W
          simp only [Int.natCast_add, Int.natCast_one] at cut
          have kc : (at_ : Int) + 1 < (s.size : Int) := by omega
          have w5 : IntKind.i64.wrap ((at_ : Int) + 1 + 1) = (at_ : Int) + 1 + 1 := by simp [IntKind.wrap, IntKind.bits, IntKind.signed]; omega
          simp only [Int.natCast_one]
          go_wp2_with (go_at_call 63; refine (KJ.out _).mono ?_; rintro e w' ⟨rfl, rfl⟩)
          go_ret2
          exact ⟨⟨at_ + 1, true, by rw [show ((at_ + 1 : Nat) : Int) = (at_ : Int) + 1 by omega]; exact ret_kb (by first | (simp; done) | (apply decide_eq_true; omega) | (symm; apply decide_eq_true; omega)), ⟨0, .inl ⟨Z0.out, rfl, rfl, rfl⟩⟩⟩, rfl⟩
        · have kc : ¬ (at_ : Int) + 1 < (s.size : Int) := by omega
          simp only [Int.natCast_one]
          go_wp2
          go_ret2
          exact ⟨⟨at_ + 1, true, by rw [show ((at_ + 1 : Nat) : Int) = (at_ : Int) + 1 by omega]; exact ret_kb (by first | (simp; done) | (apply decide_eq_true; omega) | (symm; apply decide_eq_true; omega)), ⟨0, .inl ⟨Z0.out, rfl, rfl, rfl⟩⟩⟩, rfl⟩
  · have Z0 := Lib.hid h48
    clear h48
    go_enter Try.func55, Try.ntmps55
    go_wp2
    go_loop [11] (fun a => ∃ j n : Nat, at_ + j ≤ s.size ∧ a = .int .i64 ((at_ : Int) + j) ∧ preD s (at_) lim j = some n) (fun a => s.size - (intOf a).toNat)
    case atStart => exact ⟨0, 0, by omega, by simp, rfl⟩
    case round =>
      obtain ⟨j, n, hj, rfl, hp⟩ := hrel
      have HP := Lib.hid hp
      clear hp
      by_cases hk : at_ + j < s.size
      · have kc : (at_ : Int) + j < (s.size : Int) := by omega
        have w5 : IntKind.i64.wrap ((at_ : Int) + j + 1) = (at_ : Int) + j + 1 := by simp [IntKind.wrap, IntKind.bits, IntKind.signed]; omega
        have cut := fun W => cutS s (at_) (at_ + j + 1) (by omega) (by omega) hs W
        simp only [Int.natCast_add, Int.cast_ofNat_Int, Int.natCast_one] at cut
        have BE := Lib.hid (beg_ext s (at_) j lim (by omega))
        have nz := not_zero_text s (at_) j (by omega) Z0.out
        cases hb : preD s (at_) lim (j + 1) with
        | none =>
          have KJ := Lib.hid (fun W => KB.out j (by omega) W)
          have bf : begB (s.extract (at_) (at_ + j + 1)) lim = false := by rw [BE.out, if_neg Z0.out, hb]; rfl
          rw [bf] at KJ
          have DSJ := Lib.hid (show DS s (at_) lim j n from ⟨HP.out, hb⟩)
          clear bf hb
          go_wp2_with (go_at_call 63; refine (KJ.out _).mono ?_; rintro e w' ⟨rfl, rfl⟩)
          go_ret2
          exact ⟨⟨at_ + j, decide (0 < j), by rw [show ((at_ + j : Nat) : Int) = (at_ : Int) + j by omega]; exact ret_kb (by apply decide_eq_decide.2; omega), ⟨n, .inr ⟨Z0.out, j, DSJ.out, rfl, rfl⟩⟩⟩, rfl⟩
        | some m =>
          have KJ := Lib.hid (fun W => KB.out j (by omega) W)
          have bf : begB (s.extract (at_) (at_ + j + 1)) lim = true := by rw [BE.out, if_neg Z0.out, hb]; rfl
          rw [bf] at KJ
          have HB := Lib.hid hb
          clear bf hb
          go_wp2_with (go_at_call 63; refine (KJ.out _).mono ?_; rintro e w' ⟨rfl, rfl⟩)
          go_round
          case rel => exact ⟨j + 1, m, by omega, by first | rfl | (congr 1; omega) | (simp; omega), HB.out⟩
          case measure => simp [intOf]; omega
      · have kc : ¬ (at_ : Int) + j < (s.size : Int) := by omega
        have DSJ := Lib.hid (show DS s (at_) lim j n from ⟨HP.out, by rw [preD_succ HP.out, at8_end hk]; unfold stepD; rw [if_neg (fun k => by have := k.1; unfold isD at this; omega)]⟩)
        go_wp2
        go_ret2
        exact ⟨⟨at_ + j, decide (0 < j), by rw [show ((at_ + j : Nat) : Int) = (at_ : Int) + j by omega]; exact ret_kb (by apply decide_eq_decide.2; omega), ⟨n, .inr ⟨Z0.out, j, DSJ.out, rfl, rfl⟩⟩⟩, rfl⟩
set_option maxRecDepth 100000 in
set_option maxHeartbeats 4000000 in
theorem numP (s : ByteArray) (at_ : Nat) (w : World) (ha : at_ < s.size) (hs : s.size ≤ 1048576) (hm : at8 s at_ ≠ 45) :
    Calls Try.prog 55 #[.string s, .int .i64 (at_ : Int), .int .u64 9223372036854775807, .bool true] w fun e w' => NumE (fun k wh => ∃ n, ND s at_ 9223372036854775807 k n wh) e ∧ w' = w := by
  have H45 := Lib.hid hm
  have hq : (at_ : Int) < (s.size : Int) := by omega
  obtain ⟨c, hc⟩ : ∃ c : Nat, s[at_].toNat = c := ⟨_, rfl⟩
  have c46 : ¬ (c : Int) = 45 := by have := at8_lt ha; rw [hc] at this; rw [this] at hm; exact hm
  have c45 : ((c : Int) == 45) = false := by simpa using c46
  have c47 : ¬ c = 45 := by omega
  clear hm c46
  have KB := Lib.hid (fun j (h : at_ + j + 1 ≤ s.size) W => begins_any (s.extract (at_) (at_ + j + 1)) 9223372036854775807 (by omega) (by omega) W (by rw [ext_size s _ _ h]; omega) (by rw [ext_size s _ _ h]; omega))
  simp only [Int.cast_ofNat_Int] at KB
  by_cases h48 : at8 s (at_) = 48
  · have Z0 := Lib.hid h48
    clear h48
    have hz0 : at_ < s.size := Nat.lt_of_not_le fun h => by have := Z0.out; rw [at8_end (by omega)] at this; omega
    go_enter Try.func55, Try.ntmps55
    go_wp2
    go_loop [11] (fun a => ∃ j : Nat, j ≤ 1 ∧ a = .int .i64 ((at_ : Int) + j)) (fun a => at_ + 1 - (intOf a).toNat)
    case atStart => exact ⟨0, by omega, by simp⟩
    case round =>
      obtain ⟨j, hj, rfl⟩ := hrel
      rcases (show j = 0 ∨ j = 1 by omega) with rfl | rfl
      · have KJ := Lib.hid (fun W => KB.out 0 (by omega) W)
        rw [beg_ext s (at_) 0 9223372036854775807 (by omega), if_pos Z0.out, decide_eq_true rfl] at KJ
        have cut := fun W => cutS s at_ (at_ + 0 + 1) (by omega) (by omega) hs W
        simp only [Nat.add_zero, Int.natCast_add, Int.natCast_one] at cut KJ
        have kc : (at_ : Int) < (s.size : Int) := by omega
        have w5 : IntKind.i64.wrap ((at_ : Int) + 1) = (at_ : Int) + 1 := by simp [IntKind.wrap, IntKind.bits, IntKind.signed]; omega
        simp only [Int.natCast_zero, Int.add_zero]
        go_wp2_with (go_at_call 63; refine (KJ.out _).mono ?_; rintro e w' ⟨rfl, rfl⟩)
        go_round
        case rel => exact ⟨1, by omega, by first | rfl | simp⟩
        case measure => simp [intOf]
      · by_cases hk : at_ + 1 < s.size
        · have KJ := Lib.hid (fun W => KB.out 1 (by omega) W)
          rw [beg_ext s (at_) 1 9223372036854775807 (by omega), if_pos Z0.out, decide_eq_false (by omega)] at KJ
          have cut := fun W => cutS s at_ (at_ + 1 + 1) (by omega) (by omega) hs W
          simp only [Int.natCast_add, Int.natCast_one] at cut
          have kc : (at_ : Int) + 1 < (s.size : Int) := by omega
          have w5 : IntKind.i64.wrap ((at_ : Int) + 1 + 1) = (at_ : Int) + 1 + 1 := by simp [IntKind.wrap, IntKind.bits, IntKind.signed]; omega
          simp only [Int.natCast_one]
          go_wp2_with (go_at_call 63; refine (KJ.out _).mono ?_; rintro e w' ⟨rfl, rfl⟩)
          go_ret2
          exact ⟨⟨at_ + 1, true, by rw [show ((at_ + 1 : Nat) : Int) = (at_ : Int) + 1 by omega]; exact ret_kb (by first | (simp; done) | (apply decide_eq_true; omega) | (symm; apply decide_eq_true; omega)), ⟨0, .inl ⟨Z0.out, rfl, rfl, rfl⟩⟩⟩, rfl⟩
        · have kc : ¬ (at_ : Int) + 1 < (s.size : Int) := by omega
          simp only [Int.natCast_one]
          go_wp2
          go_ret2
          exact ⟨⟨at_ + 1, true, by rw [show ((at_ + 1 : Nat) : Int) = (at_ : Int) + 1 by omega]; exact ret_kb (by first | (simp; done) | (apply decide_eq_true; omega) | (symm; apply decide_eq_true; omega)), ⟨0, .inl ⟨Z0.out, rfl, rfl, rfl⟩⟩⟩, rfl⟩
  · have Z0 := Lib.hid h48
    clear h48
    go_enter Try.func55, Try.ntmps55
    go_wp2
    go_loop [11] (fun a => ∃ j n : Nat, at_ + j ≤ s.size ∧ a = .int .i64 ((at_ : Int) + j) ∧ preD s (at_) 9223372036854775807 j = some n) (fun a => s.size - (intOf a).toNat)
    case atStart => exact ⟨0, 0, by omega, by simp, rfl⟩
    case round =>
      obtain ⟨j, n, hj, rfl, hp⟩ := hrel
      have HP := Lib.hid hp
      clear hp
      by_cases hk : at_ + j < s.size
      · have kc : (at_ : Int) + j < (s.size : Int) := by omega
        have w5 : IntKind.i64.wrap ((at_ : Int) + j + 1) = (at_ : Int) + j + 1 := by simp [IntKind.wrap, IntKind.bits, IntKind.signed]; omega
        have cut := fun W => cutS s (at_) (at_ + j + 1) (by omega) (by omega) hs W
        simp only [Int.natCast_add, Int.cast_ofNat_Int, Int.natCast_one] at cut
        have BE := Lib.hid (beg_ext s (at_) j 9223372036854775807 (by omega))
        have nz := not_zero_text s (at_) j (by omega) Z0.out
        cases hb : preD s (at_) 9223372036854775807 (j + 1) with
        | none =>
          have KJ := Lib.hid (fun W => KB.out j (by omega) W)
          have bf : begB (s.extract (at_) (at_ + j + 1)) 9223372036854775807 = false := by rw [BE.out, if_neg Z0.out, hb]; rfl
          rw [bf] at KJ
          have DSJ := Lib.hid (show DS s (at_) 9223372036854775807 j n from ⟨HP.out, hb⟩)
          clear bf hb
          go_wp2_with (go_at_call 63; refine (KJ.out _).mono ?_; rintro e w' ⟨rfl, rfl⟩)
          go_ret2
          exact ⟨⟨at_ + j, decide (0 < j), by rw [show ((at_ + j : Nat) : Int) = (at_ : Int) + j by omega]; exact ret_kb (by apply decide_eq_decide.2; omega), ⟨n, .inr ⟨Z0.out, j, DSJ.out, rfl, rfl⟩⟩⟩, rfl⟩
        | some m =>
          have KJ := Lib.hid (fun W => KB.out j (by omega) W)
          have bf : begB (s.extract (at_) (at_ + j + 1)) 9223372036854775807 = true := by rw [BE.out, if_neg Z0.out, hb]; rfl
          rw [bf] at KJ
          have HB := Lib.hid hb
          clear bf hb
          go_wp2_with (go_at_call 63; refine (KJ.out _).mono ?_; rintro e w' ⟨rfl, rfl⟩)
          go_round
          case rel => exact ⟨j + 1, m, by omega, by first | rfl | (congr 1; omega) | (simp; omega), HB.out⟩
          case measure => simp [intOf]; omega
      · have kc : ¬ (at_ : Int) + j < (s.size : Int) := by omega
        have DSJ := Lib.hid (show DS s (at_) 9223372036854775807 j n from ⟨HP.out, by rw [preD_succ HP.out, at8_end hk]; unfold stepD; rw [if_neg (fun k => by have := k.1; unfold isD at this; omega)]⟩)
        go_wp2
        go_ret2
        exact ⟨⟨at_ + j, decide (0 < j), by rw [show ((at_ + j : Nat) : Int) = (at_ : Int) + j by omega]; exact ret_kb (by apply decide_eq_decide.2; omega), ⟨n, .inr ⟨Z0.out, j, DSJ.out, rfl, rfl⟩⟩⟩, rfl⟩
set_option maxRecDepth 100000 in
set_option maxHeartbeats 4000000 in
theorem numN (s : ByteArray) (at_ : Nat) (w : World) (ha : at_ ≤ s.size) (hs : s.size ≤ 1048576) (hm : at8 s at_ = 45) :
    Calls Try.prog 55 #[.string s, .int .i64 (at_ : Int), .int .u64 9223372036854775807, .bool true] w fun e w' => NumE (fun k wh => (at8 s (at_ + 1) = 48 ∧ k = at_ + 1 ∧ wh = false) ∨ (at8 s (at_ + 1) ≠ 48 ∧ ∃ n, ND s (at_ + 1) 9223372036854775808 k n wh)) e ∧ w' = w := by
  have hk0 : at_ < s.size := Nat.lt_of_not_le fun h => by rw [at8_end (by omega)] at hm; omega
  have hq : (at_ : Int) < (s.size : Int) := by omega
  have hb45 : s[at_].toNat = 45 := by have := at8_lt hk0; rw [hm] at this; omega
  have wf : IntKind.i64.wrap ((at_ : Int) + 1) = (at_ : Int) + 1 := by simp [IntKind.wrap, IntKind.bits, IntKind.signed]; omega
  have KB := Lib.hid (fun j (h : at_ + 1 + j + 1 ≤ s.size) W => begins_any (s.extract (at_ + 1) (at_ + 1 + j + 1)) 9223372036854775808 (by omega) (by omega) W (by rw [ext_size s _ _ h]; omega) (by rw [ext_size s _ _ h]; omega))
  simp only [Int.cast_ofNat_Int] at KB
  by_cases h48 : at8 s (at_ + 1) = 48
  · have Z0 := Lib.hid h48
    clear h48
    have hz0 : at_ + 1 < s.size := Nat.lt_of_not_le fun h => by have := Z0.out; rw [at8_end (by omega)] at this; omega
    go_enter Try.func55, Try.ntmps55
    go_wp2
    go_loop [11] (fun a => a = .int .i64 ((at_ : Int) + 1)) (fun a => 0)
    case atStart => rfl
    case round =>
      subst hrel
      have KJ := Lib.hid (fun W => KB.out 0 (by omega) W)
      rw [beg_ext s (at_ + 1) 0 9223372036854775808 (by omega), if_pos Z0.out, decide_eq_true rfl] at KJ
      have cut := fun W => cutS s (at_ + 1) (at_ + 1 + 0 + 1) (by omega) (by omega) hs W
      have zt := zero_text s (at_ + 1) (by omega) Z0.out
      simp only [Nat.add_zero, Int.natCast_add, Int.natCast_one] at cut KJ zt
      have kc : (at_ : Int) + 1 < (s.size : Int) := by omega
      have w5 : IntKind.i64.wrap ((at_ : Int) + 1 + 1) = (at_ : Int) + 1 + 1 := by simp [IntKind.wrap, IntKind.bits, IntKind.signed]; omega
      go_wp2_with (go_at_call 63; refine (KJ.out _).mono ?_; rintro e w' ⟨rfl, rfl⟩)
      go_ret2
      exact ⟨⟨at_ + 1, false, by rw [show ((at_ + 1 : Nat) : Int) = (at_ : Int) + 1 by omega]; exact ret_kb (by first | (simp; done) | (apply decide_eq_false; omega)), .inl ⟨Z0.out, rfl, rfl⟩⟩, rfl⟩
  · have Z0 := Lib.hid h48
    clear h48
    go_enter Try.func55, Try.ntmps55
    go_wp2
    go_loop [11] (fun a => ∃ j n : Nat, at_ + 1 + j ≤ s.size ∧ a = .int .i64 ((at_ : Int) + 1 + j) ∧ preD s (at_ + 1) 9223372036854775808 j = some n) (fun a => s.size - (intOf a).toNat)
    case atStart => exact ⟨0, 0, by omega, by simp, rfl⟩
    case round =>
      obtain ⟨j, n, hj, rfl, hp⟩ := hrel
      have HP := Lib.hid hp
      clear hp
      by_cases hk : at_ + 1 + j < s.size
      · have kc : (at_ : Int) + 1 + j < (s.size : Int) := by omega
        have w5 : IntKind.i64.wrap ((at_ : Int) + 1 + j + 1) = (at_ : Int) + 1 + j + 1 := by simp [IntKind.wrap, IntKind.bits, IntKind.signed]; omega
        have cut := fun W => cutS s (at_ + 1) (at_ + 1 + j + 1) (by omega) (by omega) hs W
        simp only [Int.natCast_add, Int.cast_ofNat_Int, Int.natCast_one] at cut
        have BE := Lib.hid (beg_ext s (at_ + 1) j 9223372036854775808 (by omega))
        have nz := not_zero_text s (at_ + 1) j (by omega) Z0.out
        cases hb : preD s (at_ + 1) 9223372036854775808 (j + 1) with
        | none =>
          have KJ := Lib.hid (fun W => KB.out j (by omega) W)
          have bf : begB (s.extract (at_ + 1) (at_ + 1 + j + 1)) 9223372036854775808 = false := by rw [BE.out, if_neg Z0.out, hb]; rfl
          rw [bf] at KJ
          have DSJ := Lib.hid (show DS s (at_ + 1) 9223372036854775808 j n from ⟨HP.out, hb⟩)
          clear bf hb
          go_wp2_with (go_at_call 63; refine (KJ.out _).mono ?_; rintro e w' ⟨rfl, rfl⟩)
          go_ret2
          exact ⟨⟨at_ + 1 + j, decide (0 < j), by rw [show ((at_ + 1 + j : Nat) : Int) = (at_ : Int) + 1 + j by omega]; exact ret_kb (by apply decide_eq_decide.2; omega), .inr ⟨Z0.out, n, .inr ⟨Z0.out, j, DSJ.out, rfl, rfl⟩⟩⟩, rfl⟩
        | some m =>
          have KJ := Lib.hid (fun W => KB.out j (by omega) W)
          have bf : begB (s.extract (at_ + 1) (at_ + 1 + j + 1)) 9223372036854775808 = true := by rw [BE.out, if_neg Z0.out, hb]; rfl
          rw [bf] at KJ
          have HB := Lib.hid hb
          clear bf hb
          go_wp2_with (go_at_call 63; refine (KJ.out _).mono ?_; rintro e w' ⟨rfl, rfl⟩)
          go_round
          case rel => exact ⟨j + 1, m, by omega, by first | rfl | (congr 1; omega) | (simp; omega), HB.out⟩
          case measure => simp [intOf]; omega
      · have kc : ¬ (at_ : Int) + 1 + j < (s.size : Int) := by omega
        have DSJ := Lib.hid (show DS s (at_ + 1) 9223372036854775808 j n from ⟨HP.out, by rw [preD_succ HP.out, at8_end hk]; unfold stepD; rw [if_neg (fun k => by have := k.1; unfold isD at this; omega)]⟩)
        go_wp2
        go_ret2
        exact ⟨⟨at_ + 1 + j, decide (0 < j), by rw [show ((at_ + 1 + j : Nat) : Int) = (at_ : Int) + 1 + j by omega]; exact ret_kb (by apply decide_eq_decide.2; omega), .inr ⟨Z0.out, n, .inr ⟨Z0.out, j, DSJ.out, rfl, rfl⟩⟩⟩, rfl⟩
set_option maxHeartbeats 1000000 in
theorem numZ (s : ByteArray) (w : World) (hs : s.size ≤ 1048576) :
    Calls Try.prog 55 #[.string s, .int .i64 (s.size : Int), .int .u64 9223372036854775807, .bool true] w fun e w' => e = .returned (.tuple #[.int .i64 (s.size : Int), .bool false]) ∧ w' = w := by
  have kc : ¬ (s.size : Int) < (s.size : Int) := by omega
  have kd : decide ((s.size : Int) < (s.size : Int)) = false := decide_eq_false kc
  go_enter Try.func55, Try.ntmps55
  go_wp2
  go_loop [11] (fun a => a = .int .i64 (s.size : Int)) (fun a => 0)
  case atStart => rfl
  case round =>
    subst hrel
    go_wp2
    go_ret2
    exact ⟨ret_kb (by first | (simp; done) | (apply decide_eq_false; omega)), rfl⟩
end Go.Proofs.Ythhacbelbkkcmaa

namespace Go.Proofs.Ythhacbelbkkcmaa
open Go.RowKit
set_option linter.unusedVariables false
set_option linter.unusedSimpArgs false

theorem preD_up {s : ByteArray} {fr lim : Nat} : ∀ {j n : Nat}, preD s fr lim j = some n → ∀ i, i ≤ j → ∃ m, preD s fr lim i = some m := fun {j n} h i hi => by
  cases hp : preD s fr lim i with
  | some m => exact ⟨m, rfl⟩
  | none =>
    have := preD_down (j - i) i hp
    rw [show i + (j - i) = j by omega, h] at this
    cases this
theorem nd_pre {s : ByteArray} {at_ lim k n : Nat} (l9 : 9 ≤ lim) (h : ND s at_ lim k n true) : at_ < k ∧ preD s at_ lim (k - at_) = some n := by
  rcases h with ⟨a, b, c, _⟩ | ⟨a, j, b, c, d⟩
  · subst b c
    refine ⟨by omega, ?_⟩
    rw [show at_ + 1 - at_ = 1 by omega, preD_succ (n := 0) rfl, Nat.add_zero, a]
    unfold stepD
    rw [if_pos ⟨by unfold isD; omega, by omega⟩]
    rfl
  · have hj : 0 < j := of_decide_eq_true d.symm
    subst c
    exact ⟨by omega, by rw [show at_ + j - at_ = j by omega]; exact b.1⟩

set_option maxHeartbeats 2000000 in
theorem value_pos (t : ByteArray) (lim n : Nat) (l9 : 9 ≤ lim) (l63 : lim ≤ 9223372036854775807) (w : World) (h1 : 1 ≤ t.size) (h2 : t.size ≤ 1048576) (h : preD t 0 lim t.size = some n) :
    Calls Try.prog 56 #[.string t] w fun e w' => e = .returned (.int .i64 (n : Int)) ∧ w' = w := by
  have H := Lib.hid h
  have dig : ∀ i, i < t.size → isD (at8 t i) := fun i hi => by
    obtain ⟨m, hm⟩ := preD_up h i (by omega)
    obtain ⟨m', hm'⟩ := preD_up h (i + 1) (by omega)
    rw [preD_succ hm, Nat.zero_add] at hm'
    exact (step_le l9 hm').2.1
  have DIG := Lib.hid dig
  have E0 := dig 0 (by omega)
  rw [at8_lt (by omega)] at E0
  obtain ⟨c0, hc0⟩ : ∃ c : Nat, t[0].toNat = c := ⟨_, rfl⟩
  have z0 : 0 < t.size := by omega
  have z1 : (0 : Int) < (t.size : Int) := by omega
  have e45 : ((c0 : Int) == 45) = false := by rw [hc0] at E0; unfold isD at E0; simp; omega
  have e46 : ¬ c0 = 45 := by rw [hc0] at E0; unfold isD at E0; omega
  clear h dig E0
  go_enter Try.func56, Try.ntmps56
  go_wp2
  go_loop [4, 5] (fun a b => ∃ i m : Nat, i ≤ t.size ∧ a = .int .i64 m ∧ b = .int .i64 i ∧ preD t 0 lim i = some m) (fun _ b => t.size - (intOf b).toNat)
  case atStart => exact ⟨0, 0, by omega, rfl, rfl, rfl⟩
  case round =>
    obtain ⟨i, m, hi, rfl, rfl, hp⟩ := hrel
    have HP := Lib.hid hp
    by_cases hk : i < t.size
    · have kc : (i : Int) < (t.size : Int) := by omega
      obtain ⟨c, hc⟩ : ∃ c : Nat, t[i].toNat = c := ⟨_, rfl⟩
      have E := Lib.hid (show at8 t i = c by rw [at8_lt hk, hc])
      have ID := DIG.out i hk
      rw [E.out] at ID
      unfold isD at ID
      obtain ⟨m', hm'⟩ := preD_up H.out (i + 1) (by omega)
      have NX := Lib.hid hm'
      rw [preD_succ hp, Nat.zero_add, E.out] at hm'
      obtain ⟨ml, _, me⟩ := step_le l9 hm'
      have me' : (m' : Int) = 10 * m + ((c : Int) - 48) := by
        have := (dg_bd (c := (c : Int)) (by unfold isD; omega)).2; omega
      have c45 : ((c : Int) == 45) = false := by simp; omega
      have c46 : ¬ c = 45 := by omega
      have w1 : IntKind.u8.wrap ((c : Int) - 48) = (c : Int) - 48 := by simp [IntKind.wrap, IntKind.bits, IntKind.signed]; omega
      have w2 : IntKind.i64.wrap ((c : Int) - 48) = (c : Int) - 48 := by rw [IntKind.wrap_i64]; omega
      have w3 : IntKind.i64.wrap (10 * (m : Int)) = 10 * (m : Int) := by rw [IntKind.wrap_i64]; omega
      have w4 : IntKind.i64.wrap (10 * (m : Int) + ((c : Int) - 48)) = 10 * (m : Int) + ((c : Int) - 48) := by rw [IntKind.wrap_i64]; omega
      have w5 : IntKind.i64.wrap ((i : Int) + 1) = (i : Int) + 1 := by rw [IntKind.wrap_i64]; omega
      have ME := Lib.hid me'
      clear hp hm' me me'
      go_wp2
      go_round
      case rel => exact ⟨i + 1, m', by omega, by congr 1; exact ME.out.symm, by go_num, NX.out⟩
      case measure => simp [intOf]; omega
    · obtain rfl : i = t.size := by omega
      have e : m = n := by have := hp.symm.trans H.out; simpa using this
      subst e
      clear hp
      go_wp2
      go_ret
      exact ⟨rfl, rfl⟩

set_option maxHeartbeats 2000000 in
theorem value_neg (t : ByteArray) (j n : Nat) (w : World) (h1 : t.size = j + 1) (h2 : t.size ≤ 1048576) (h0 : at8 t 0 = 45) (h : preD t 1 9223372036854775808 j = some n) :
    Calls Try.prog 56 #[.string t] w fun e w' => e = .returned (.int .i64 (-(n : Int))) ∧ w' = w := by
  have H := Lib.hid h
  have dig : ∀ i, i < j → isD (at8 t (1 + i)) := fun i hi => by
    obtain ⟨m, hm⟩ := preD_up h i (by omega)
    obtain ⟨m', hm'⟩ := preD_up h (i + 1) (by omega)
    rw [preD_succ hm] at hm'
    exact (step_le (by omega) hm').2.1
  have DIG := Lib.hid dig
  have z0 : 0 < t.size := by omega
  have hc0 : t[0].toNat = 45 := by have := at8_lt z0; rw [h0] at this; omega
  have z1 : (0 : Int) < (t.size : Int) := by omega
  clear h dig h0
  go_enter Try.func56, Try.ntmps56
  go_wp2
  go_loop [4, 5] (fun a b => ∃ i m : Nat, i ≤ t.size ∧ a = .int .i64 (-(m : Int)) ∧ b = .int .i64 i ∧ ((i = 0 ∧ m = 0) ∨ (1 ≤ i ∧ preD t 1 9223372036854775808 (i - 1) = some m))) (fun _ b => t.size - (intOf b).toNat)
  case atStart => exact ⟨0, 0, by omega, rfl, rfl, .inl ⟨rfl, rfl⟩⟩
  case round =>
    obtain ⟨i, m, hi, rfl, rfl, hp⟩ := hrel
    have HP := Lib.hid hp
    by_cases hk : i < t.size
    · have kc : (i : Int) < (t.size : Int) := by omega
      have w5 : IntKind.i64.wrap ((i : Int) + 1) = (i : Int) + 1 := by rw [IntKind.wrap_i64]; omega
      rcases hp with ⟨hi0, hm0⟩ | ⟨hi1, hp⟩
      · subst hi0 hm0
        go_wp2
        go_round
        case rel => exact ⟨1, 0, by omega, by first | rfl | simp, by first | rfl | simp, .inr ⟨by omega, rfl⟩⟩
        case measure => simp [intOf]; omega
      · obtain ⟨c, hc⟩ : ∃ c : Nat, t[i].toNat = c := ⟨_, rfl⟩
        have E := Lib.hid (show at8 t i = c by rw [at8_lt hk, hc])
        have ID := DIG.out (i - 1) (by omega)
        rw [show 1 + (i - 1) = i by omega, E.out] at ID
        unfold isD at ID
        obtain ⟨m', hm'⟩ := preD_up H.out (i - 1 + 1) (by omega)
        have NX := Lib.hid hm'
        rw [preD_succ hp, show 1 + (i - 1) = i by omega, E.out] at hm'
        obtain ⟨ml, _, me⟩ := step_le (by omega) hm'
        have me' : (m' : Int) = 10 * m + ((c : Int) - 48) := by
          have := (dg_bd (c := (c : Int)) (by unfold isD; omega)).2; omega
        have c45 : ((c : Int) == 45) = false := by simp; omega
        have c46 : ¬ c = 45 := by omega
        have w1 : IntKind.u8.wrap ((c : Int) - 48) = (c : Int) - 48 := by simp [IntKind.wrap, IntKind.bits, IntKind.signed]; omega
        have w2 : IntKind.i64.wrap ((c : Int) - 48) = (c : Int) - 48 := by rw [IntKind.wrap_i64]; omega
        have w3 : IntKind.i64.wrap (10 * -(m : Int)) = 10 * -(m : Int) := by rw [IntKind.wrap_i64]; omega
        have w3' : IntKind.i64.wrap (-(10 * (m : Int))) = -(10 * (m : Int)) := by rw [IntKind.wrap_i64]; omega
        have w4 : IntKind.i64.wrap (10 * -(m : Int) - ((c : Int) - 48)) = 10 * -(m : Int) - ((c : Int) - 48) := by rw [IntKind.wrap_i64]; omega
        have w4' : IntKind.i64.wrap (-(10 * (m : Int)) - ((c : Int) - 48)) = -(10 * (m : Int)) - ((c : Int) - 48) := by rw [IntKind.wrap_i64]; omega
        have ME := Lib.hid me'
        clear hp hm' me me'
        go_wp2
        go_round
        case rel => exact ⟨i + 1, m', by omega, by congr 1; have := ME.out; omega, by go_num, .inr ⟨by omega, by rw [show i + 1 - 1 = i - 1 + 1 by omega]; exact NX.out⟩⟩
        case measure => simp [intOf]; omega
    · obtain rfl : i = t.size := by omega
      have e : m = n := by
        rcases hp with ⟨a, _⟩ | ⟨_, a⟩
        · omega
        · rw [show t.size - 1 = j by omega] at a
          have := a.symm.trans H.out; simpa using this
      subst e
      clear hp
      go_wp2
      go_ret
      exact ⟨rfl, rfl⟩
end Go.Proofs.Ythhacbelbkkcmaa
