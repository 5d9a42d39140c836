/-
  WALKS: Zigzag, AppendUint, AppendInt, AppendText (the document's).
-/
import Derived.Test.YtfgmgcllplgpnaaWRefOct
import Derived.Lib.ConvBytes
namespace Go.Proofs.Ytfgmgcllplgpnaa
open Go.RowKit
set_option linter.unusedVariables false
set_option linter.unusedSimpArgs false

theorem own_low {w : World} {B B' : Nat} {v : Value} {n : Nat} {xs : List Int} (h : Own w B v n xs) (hB : B' ≤ B) : Own w B' v n xs := by
  obtain ⟨o1, o2⟩ := h
  refine ⟨o1, ?_⟩
  rcases o2 with o2 | ⟨g, c, cur, q1, q2, q3⟩
  · exact .inl o2
  · exact .inr ⟨g, c, cur, q1, Nat.le_trans hB q2, q3⟩
theorem zigzagR_any (x : Int) (w : World) (h : -9223372036854775808 ≤ x ∧ x ≤ 9223372036854775807) :
    Calls Try.prog 37 #[.int .i64 x] w fun e w' => e = .returned (.int .u64 ((zz x : Nat) : Int)) ∧ w' = w := by
  by_cases hx : x < 0
  · obtain ⟨y, rfl⟩ : ∃ y : Nat, x = -(y : Int) - 1 := ⟨(-x - 1).toNat, by omega⟩
    have e0 : ¬ (0 : Int) ≤ -(y : Int) - 1 := by omega
    have e1 : -(y : Int) - 1 + 1 = -(y : Int) := by omega
    have w1 : IntKind.i64.wrap (-(y : Int)) = -(y : Int) := by simp [IntKind.wrap, IntKind.bits, IntKind.signed]; omega
    have w2 : IntKind.i64.wrap (y : Int) = (y : Int) := by simp [IntKind.wrap, IntKind.bits, IntKind.signed]; omega
    have w3 : IntKind.u64.wrap (y : Int) = (y : Int) := by simp [IntKind.wrap, IntKind.bits, IntKind.signed]; omega
    have w4 : IntKind.u64.wrap (2 * (y : Int)) = 2 * (y : Int) := by simp [IntKind.wrap, IntKind.bits, IntKind.signed]; omega
    have w5 : IntKind.u64.wrap (2 * (y : Int) + 1) = 2 * (y : Int) + 1 := by simp [IntKind.wrap, IntKind.bits, IntKind.signed]; omega
    go_enter Try.func37, Try.ntmps37
    go_wp2
    go_ret
    refine ⟨?_, rfl⟩
    simp only [Array.getD]
    simp
    unfold zz
    rw [if_pos (by omega)]
    omega
  · go_enter Try.func37, Try.ntmps37
    go_wp2
    go_ret
    refine ⟨?_, rfl⟩
    simp only [Array.getD]
    simp
    unfold zz
    rw [if_neg (by omega)]
    omega

set_option maxRecDepth 100000 in
set_option maxHeartbeats 1000000 in
theorem appendUintR_any (a : Option Addr) (n cap : Nat) (xs : List Int) (x : Nat) (w : World) (h : Sl w a n cap xs) (hn : n ≤ 140737488355000) (hx : x < 18446744073709551616) :
    Calls Try.prog 21 #[.slice a n cap, .int .u64 (x : Int)] w fun e w' => ∃ v', e = .returned v' ∧ Own w' w.heap.size v' (n + (vl x).length) (xs ++ vl x) ∧ Below w.heap.size w w' := by
  have K1 := Lib.hid (fun W => varintR_any x W hx)
  have lx := vl_len10 hx
  have BX := Lib.hid (vl_byte x)
  have KJ := Lib.hid (fun b d W (q : Sl W a n cap xs) (q' : Sl W b (vl x).length d (vl x)) => joined_any a b n (vl x).length cap d xs (vl x) W q q' (by omega))
  have HL := Lib.hid h
  clear h
  generalize (vl x).length = m at *
  generalize vl x = bs at *
  go_enter Try.func21, Try.ntmps21
  go_wp2_with (first
    | (go_at_call 36; refine (K1.out _).mono ?_; rintro e w1 ⟨v1, rfl, h1, h2⟩; obtain ⟨a1, cap1, rfl, s1⟩ := own_sl h1 BX.out (by omega); have S1 := Lib.hid s1; have B1 := Lib.hid h2; clear h1 h2 s1)
    | (go_at_call 35; refine (KJ.out _ _ _ (HL.out.later B1.out) S1.out).mono ?_; rintro e w2 ⟨v2, rfl, h1, h2⟩; have O2 := Lib.hid h1; have B2 := Lib.hid h2; clear h1 h2))
  go_ret
  exact ⟨_, rfl, own_low O2.out B1.out.size, B1.out.trans (B2.out.mono B1.out.size)⟩
set_option maxRecDepth 100000 in
set_option maxHeartbeats 1000000 in
theorem appendIntR_any (a : Option Addr) (n cap : Nat) (xs : List Int) (x : Int) (w : World) (h : Sl w a n cap xs) (hn : n ≤ 140737488355000) (hx : -9223372036854775808 ≤ x ∧ x ≤ 9223372036854775807) :
    Calls Try.prog 22 #[.slice a n cap, .int .i64 x] w fun e w' => ∃ v', e = .returned v' ∧ Own w' w.heap.size v' (n + (vl (zz x)).length) (xs ++ vl (zz x)) ∧ Below w.heap.size w w' := by
  have KZ := Lib.hid (fun W => zigzagR_any x W hx)
  have zl := zz_lt hx
  generalize zz x = z at *
  have K1 := Lib.hid (fun W => varintR_any z W zl)
  have lx := vl_len10 zl
  have BX := Lib.hid (vl_byte z)
  have KJ := Lib.hid (fun b d W (q : Sl W a n cap xs) (q' : Sl W b (vl z).length d (vl z)) => joined_any a b n (vl z).length cap d xs (vl z) W q q' (by omega))
  have HL := Lib.hid h
  clear h
  generalize (vl z).length = m at *
  generalize vl z = bs at *
  go_enter Try.func22, Try.ntmps22
  go_wp2_with (first
    | (go_at_call 37; refine (KZ.out _).mono ?_; rintro e w1 ⟨rfl, h1⟩; subst h1)
    | (go_at_call 36; refine (K1.out _).mono ?_; rintro e w1 ⟨v1, rfl, h1, h2⟩; obtain ⟨a1, cap1, rfl, s1⟩ := own_sl h1 BX.out (by omega); have S1 := Lib.hid s1; have B1 := Lib.hid h2; clear h1 h2 s1)
    | (go_at_call 35; refine (KJ.out _ _ _ (HL.out.later B1.out) S1.out).mono ?_; rintro e w2 ⟨v2, rfl, h1, h2⟩; have O2 := Lib.hid h1; have B2 := Lib.hid h2; clear h1 h2))
  go_ret
  exact ⟨_, rfl, own_low O2.out B1.out.size, B1.out.trans (B2.out.mono B1.out.size)⟩

theorem conv_sl (W : World) (s : ByteArray) (hs : s.size ≤ 140737488355328) : Sl (Lib.bytesWorld W 5 s) (some ⟨W.heap.size, 0, none⟩) s.size (grownCap W s.size 0 5) (sb s) := by
  refine ⟨⟨sb_len s, hs, sb_byte s, .inr ⟨W.heap.size, 0, rfl, by rw [Lib.bytesWorld_size]; omega, fun i hi => ?_⟩⟩, (fun e => by cases e), grownCap_ge _ _ _ _⟩
  rw [Nat.zero_add, Lib.bytesWorld_cell W 5 s i hi]
  have : i < s.data.toList.length := by rw [Array.length_toList]; exact hi
  simp [sb, List.getD, this]
  simp_all
theorem conv_below (W : World) (s : ByteArray) : Below W.heap.size W (Lib.bytesWorld W 5 s) := ⟨rfl, rfl, rfl, by rw [Lib.bytesWorld_size]; omega, fun k hk => Lib.bytesWorld_at_old W _ s k hk⟩
set_option maxRecDepth 100000 in
set_option maxHeartbeats 2000000 in
theorem appendTextR_any (a : Option Addr) (n cap : Nat) (xs : List Int) (s : ByteArray) (w : World) (h : Sl w a n cap xs) (hn : n + s.size ≤ 140737488355000) :
    Calls Try.prog 24 #[.slice a n cap, .string s] w fun e w' => ∃ v', e = .returned v' ∧ Own w' w.heap.size v' (n + (tx s).length) (xs ++ tx s) ∧ Below w.heap.size w w' := by
  have K1 := Lib.hid (fun W => varintR_any s.size W (by omega))
  have lx := vl_len10 (x := s.size) (by omega)
  have BX := Lib.hid (vl_byte s.size)
  have BJ := Lib.hid (p := ∀ c ∈ xs ++ vl s.size, 0 ≤ c ∧ c ≤ 255) (fun c hc => by
    rcases List.mem_append.1 hc with q | q
    · exact h.1.2.2.1 c q
    · exact vl_byte _ c q)
  have KJ := Lib.hid (fun b d W (q : Sl W a n cap xs) (q' : Sl W b (vl s.size).length d (vl s.size)) => joined_any a b n (vl s.size).length cap d xs (vl s.size) W q q' (by omega))
  have KK := Lib.hid (fun b d b2 d2 W (q : Sl W b (n + (vl s.size).length) d (xs ++ vl s.size)) (q' : Sl W b2 s.size d2 (sb s)) => joined_any b b2 (n + (vl s.size).length) s.size d d2 (xs ++ vl s.size) (sb s) W q q' (by omega))
  have TX := Lib.hid (p := xs ++ vl s.size ++ sb s = xs ++ tx s) (by simp [tx])
  have TL := Lib.hid (p := n + (vl s.size).length + s.size = n + (tx s).length) (by simp [tx, sb_len]; omega)
  have cv : IntKind.u64.wrap (s.size : Int) = (s.size : Int) := by simp [IntKind.wrap, IntKind.bits, IntKind.signed]; omega
  have cb : ∀ W, (convert 9 22 (.string s)).run Try.prog W = .ok (.slice (some ⟨W.heap.size, 0, none⟩) s.size (grownCap W s.size 0 5)) (Lib.bytesWorld W 5 s) := fun W => Lib.run_convert_string_bytes W 9 22 5 s Try.underlying9 Try.underlying22 (by kernel_rfl)
  have HL := Lib.hid h
  have s47 : s.size ≤ 140737488355328 := by omega
  clear h
  generalize hm : (vl s.size).length = m at *
  generalize hz : xs ++ vl s.size = zs at *
  generalize vl s.size = bs at *
  clear hm hz
  go_enter Try.func24, Try.ntmps24
  go_wp2_with (first
    | (go_at_call 36; refine (K1.out _).mono ?_; rintro e w1 ⟨v1, rfl, h1, h2⟩; obtain ⟨a1, cap1, rfl, s1⟩ := own_sl h1 BX.out (by omega); have S1 := Lib.hid s1; have B1 := Lib.hid h2; clear h1 h2 s1)
    | (go_at_call 35; have qq := S2; refine (KK.out _ _ _ _ _ (S2.out.later (conv_below _ s)) (conv_sl _ s s47)).mono ?_; rintro e w3 ⟨v3, rfl, h1, h2⟩; have O3 := Lib.hid h1; have B3 := Lib.hid h2; clear h1 h2)
    | (go_at_call 35; refine (KJ.out _ _ _ (HL.out.later B1.out) S1.out).mono ?_; rintro e w2 ⟨v2, rfl, h1, h2⟩; obtain ⟨a2, cap2, rfl, s2⟩ := own_sl h1 BJ.out (by omega); have S2 := Lib.hid s2; have B2 := Lib.hid (B1.out.trans (h2.mono B1.out.size)); clear h1 h2 s2))
  go_ret
  have CB := conv_below w2 s
  have B4 := B2.out.trans (CB.mono B2.out.size)
  refine ⟨_, rfl, ?_, B4.trans (B3.out.mono B4.size)⟩
  have := own_low O3.out B4.size
  rw [TL.out, TX.out] at this
  exact this
end Go.Proofs.Ytfgmgcllplgpnaa
