import Derived.Test.YtccjeipkljdhdaaGreatDoorXAE
import Derived.Lib.SmallJoins
import Derived.RangeFuncRecord
import Derived.Maps.OwnSet
namespace Go.Proofs.YtccjeipkljdhdaaGreatDoor
open Go.RowKit Lx
set_option linter.unusedVariables false
set_option linter.unusedSimpArgs false

theorem rsmall_any (c : Nat) (w : World) : Calls Tryz.prog 128 #[.int .u8 (c : Int)] w fun e w' => e = .returned (.bool (smN c)) ∧ w' = w := by
  by_cases h1 : 97 ≤ c
  · have h1' : (97 : Int) ≤ (c : Int) := by omega
    by_cases h2 : c ≤ 122
    · have h2' : (c : Int) ≤ 122 := by omega
      rw [smN_at h1, decide_eq_true h2]
      clear h1 h2
      go_enter Tryz.func128, Tryz.ntmps128
      go_wp2
      go_ret
      exact ⟨rfl, rfl⟩
    · have h2' : ¬ (c : Int) ≤ 122 := by omega
      rw [smN_at h1, decide_eq_false h2]
      clear h1 h2
      go_enter Tryz.func128, Tryz.ntmps128
      go_wp2
      go_ret
      exact ⟨rfl, rfl⟩
  · have h1' : decide ((97 : Int) ≤ (c : Int)) = false := decide_eq_false (by omega)
    rw [smN_no1 h1]
    clear h1
    go_enter Tryz.func128, Tryz.ntmps128
    go_wp2
    go_ret
    exact ⟨rfl, rfl⟩
theorem rcapital_any (c : Nat) (w : World) : Calls Tryz.prog 111 #[.int .u8 (c : Int)] w fun e w' => e = .returned (.bool (cpN c)) ∧ w' = w := by
  by_cases h1 : 65 ≤ c
  · have h1' : (65 : Int) ≤ (c : Int) := by omega
    by_cases h2 : c ≤ 90
    · have h2' : (c : Int) ≤ 90 := by omega
      rw [cpN_at h1, decide_eq_true h2]
      clear h1 h2
      go_enter Tryz.func111, Tryz.ntmps111
      go_wp2
      go_ret
      exact ⟨rfl, rfl⟩
    · have h2' : ¬ (c : Int) ≤ 90 := by omega
      rw [cpN_at h1, decide_eq_false h2]
      clear h1 h2
      go_enter Tryz.func111, Tryz.ntmps111
      go_wp2
      go_ret
      exact ⟨rfl, rfl⟩
  · have h1' : decide ((65 : Int) ≤ (c : Int)) = false := decide_eq_false (by omega)
    rw [cpN_no1 h1]
    clear h1
    go_enter Tryz.func111, Tryz.ntmps111
    go_wp2
    go_ret
    exact ⟨rfl, rfl⟩
theorem rdigit_any (c : Nat) (w : World) : Calls Tryz.prog 140 #[.int .u8 (c : Int)] w fun e w' => e = .returned (.bool (dgN c)) ∧ w' = w := by
  by_cases h1 : 48 ≤ c
  · have h1' : (48 : Int) ≤ (c : Int) := by omega
    by_cases h2 : c ≤ 57
    · have h2' : (c : Int) ≤ 57 := by omega
      rw [dgN_at h1, decide_eq_true h2]
      clear h1 h2
      go_enter Tryz.func140, Tryz.ntmps140
      go_wp2
      go_ret
      exact ⟨rfl, rfl⟩
    · have h2' : ¬ (c : Int) ≤ 57 := by omega
      rw [dgN_at h1, decide_eq_false h2]
      clear h1 h2
      go_enter Tryz.func140, Tryz.ntmps140
      go_wp2
      go_ret
      exact ⟨rfl, rfl⟩
  · have h1' : decide ((48 : Int) ≤ (c : Int)) = false := decide_eq_false (by omega)
    rw [dgN_no1 h1]
    clear h1
    go_enter Tryz.func140, Tryz.ntmps140
    go_wp2
    go_ret
    exact ⟨rfl, rfl⟩
theorem rruns_any (c : Nat) (w : World) : Calls Tryz.prog 127 #[.int .u8 (c : Int)] w fun e w' => e = .returned (.bool (rnN c)) ∧ w' = w := by
  have KS := Lib.hid (fun W => rsmall_any c W)
  have KC := Lib.hid (fun W => rcapital_any c W)
  have KD := Lib.hid (fun W => rdigit_any c W)
  cases hd : dgN c with
  | true =>
    rw [hd] at KD
    rw [show rnN c = true from rn_dg hd]
    clear hd
    go_enter Tryz.func127, Tryz.ntmps127
    go_wp2_with (first | (go_at_call 140; refine (KD.out _).mono ?_; rintro e w1 ⟨rfl, rfl⟩))
    go_ret
    exact ⟨rfl, rfl⟩
  | false =>
    rw [hd] at KD
    cases hs : smN c with
    | true =>
      rw [hs] at KS
      rw [show rnN c = true from rn_sm hs]
      clear hd hs
      go_enter Tryz.func127, Tryz.ntmps127
      go_wp2_with (first | (go_at_call 140; refine (KD.out _).mono ?_; rintro e w1 ⟨rfl, rfl⟩) | (go_at_call 128; refine (KS.out _).mono ?_; rintro e w1 ⟨rfl, rfl⟩))
      go_ret
      exact ⟨rfl, rfl⟩
    | false =>
      rw [hs] at KS
      cases hc : cpN c with
      | true =>
        rw [hc] at KC
        rw [show rnN c = true from rn_cp hc]
        clear hd hs hc
        go_enter Tryz.func127, Tryz.ntmps127
        go_wp2_with (first | (go_at_call 140; refine (KD.out _).mono ?_; rintro e w1 ⟨rfl, rfl⟩) | (go_at_call 128; refine (KS.out _).mono ?_; rintro e w1 ⟨rfl, rfl⟩) | (go_at_call 111; refine (KC.out _).mono ?_; rintro e w1 ⟨rfl, rfl⟩))
        go_ret
        exact ⟨rfl, rfl⟩
      | false =>
        rw [hc] at KC
        by_cases h9 : c = 95
        · subst h9
          rw [show rnN 95 = true from rfl]
          clear hs hc hd
          go_enter Tryz.func127, Tryz.ntmps127
          go_wp2_with (first | (go_at_call 140; refine (KD.out _).mono ?_; rintro e w1 ⟨rfl, rfl⟩) | (go_at_call 128; refine (KS.out _).mono ?_; rintro e w1 ⟨rfl, rfl⟩) | (go_at_call 111; refine (KC.out _).mono ?_; rintro e w1 ⟨rfl, rfl⟩))
          go_ret
          exact ⟨rfl, rfl⟩
        · rw [show rnN c = false by unfold rnN; rw [hs, hc, hd, decide_eq_false h9]; rfl]
          have h9' : ((c : Int) == 95) = false := by rw [beq_eq_false_iff_ne]; exact castI h9
          clear hs hc hd h9
          go_enter Tryz.func127, Tryz.ntmps127
          go_wp2_with (first | (go_at_call 140; refine (KD.out _).mono ?_; rintro e w1 ⟨rfl, rfl⟩) | (go_at_call 128; refine (KS.out _).mono ?_; rintro e w1 ⟨rfl, rfl⟩) | (go_at_call 111; refine (KC.out _).mono ?_; rintro e w1 ⟨rfl, rfl⟩))
          go_ret
          exact ⟨rfl, rfl⟩
theorem cutMidR (s : ByteArray) (a b : Int) (h0 : 0 ≤ a) (h1 : a ≤ b) (hb : b ≤ s.size) (W : World) : (Instr.slice 9 (.string s) (some (.int .i64 a)) (some (.int .i64 b)) none).run Tryz.prog W = .ok (.string (bs (((lst s).take b.toNat).drop a.toNat))) W := by
  rw [run_slice_string W 9 s .i64 .i64 a b (by kernel_rfl) h0 h1 hb]
  have : s.extract a.toNat b.toNat = bs (((lst s).take b.toNat).drop a.toNat) := by
    obtain ⟨⟨l⟩⟩ := s
    apply ByteArray.ext
    rw [ByteArray.data_extract]
    simp [bs, lst, List.drop_take]
  rw [this]
theorem run_mid {l : L} {at_ k : Nat} (hk : at_ ≤ k) (hl : k ≤ l.length) (h : ∀ i, at_ ≤ i → i < k → rnN (nthN l i) = true) (he : k < l.length → rnN (nthN l k) = false) : run (l.drop at_) = (l.take k).drop at_ := by
  have e : ∀ i, nthN (l.drop at_) i = nthN l (at_ + i) := fun i => by simp [nthN, List.getD]
  rw [run_at (l := l.drop at_) (k := k - at_) (fun i hi => by rw [e]; exact h _ (by omega) (by omega)) (by rw [List.length_drop]; omega) (fun hk' => by rw [List.length_drop] at hk'; rw [e, show at_ + (k - at_) = k by omega]; exact he (by omega)), List.drop_take]
set_option maxHeartbeats 1000000 in
theorem rrun_any (s : ByteArray) (at_ : Nat) (w : World) (hs : s.size ≤ 9223372036854775807) (ha : at_ ≤ s.size) :
    Calls Tryz.prog 112 #[.string s, .int .i64 (at_ : Int)] w fun e w' => e = .returned (.string (bs (run ((lst s).drop at_)))) ∧ w' = w := by
  obtain ⟨R, hR⟩ : ∃ R, run ((lst s).drop at_) = R := ⟨_, rfl⟩
  have HR := Lib.hid (p := ∀ k, at_ ≤ k → (∀ i, at_ ≤ i → i < k → rnN (nthN (lst s) i) = true) → k ≤ s.size → (k < s.size → rnN (nthN (lst s) k) = false) → ((lst s).take k).drop at_ = R) (fun k z a b c => by rw [← hR]; exact (run_mid z (by rw [lst_len]; exact b) a (by rw [lst_len]; exact c)).symm)
  rw [hR]
  clear hR
  go_enter Tryz.func112, Tryz.ntmps112
  go_wp2
  go_loop [5] (fun t => ∃ k : Nat, at_ ≤ k ∧ k ≤ s.size ∧ t = .int .i64 k ∧ RowKit.Hid (∀ i, at_ ≤ i → i < k → rnN (nthN (lst s) i) = true)) (fun t => s.size - intV t)
  case atStart => exact ⟨at_, by omega, by omega, rfl, fun i _ hi => absurd hi (by omega)⟩
  case round =>
    obtain ⟨k, hz, hk, rfl, hN⟩ := hrel
    by_cases hlt : k < s.size
    · have kc : (k : Int) < (s.size : Int) := by omega
      have E := nth_lst hlt
      have KR := Lib.hid (fun W => rruns_any (s[k].toNat) W)
      cases hc : rnN (s[k].toNat) with
      | true =>
        rw [hc] at KR
        have NX := Lib.hid (p := ∀ i, at_ ≤ i → i < k + 1 → rnN (nthN (lst s) i) = true) (fun i hj hi => by
          rcases (show i < k ∨ i = k by omega) with q | q
          · exact hN.out i hj q
          · rw [q, E]; exact hc)
        have ME := Lib.hid (p := s.size - intV (.int .i64 ((k : Int) + 1)) < s.size - intV (.int .i64 (k : Int))) (by simp only [intV]; omega)
        have kw : IntKind.i64.wrap ((k : Int) + 1) = (k : Int) + 1 := by simp [IntKind.wrap, IntKind.bits, IntKind.signed]; omega
        clear E hc hN
        go_wp2_with (go_at_call 127; refine (KR.out _).mono ?_; rintro e w1 ⟨rfl, rfl⟩)
        go_round
        case rel => exact ⟨k + 1, by omega, by omega, by simp, NX.out⟩
        case measure => exact ME.out
      | false =>
        rw [hc] at KR
        have ED := Lib.hid (HR.out k hz hN.out hk (fun _ => by rw [E]; exact hc))
        have s1 := cutMidR s (at_ : Int) k (by omega) (by omega) (by omega)
        rw [Int.toNat_natCast, Int.toNat_natCast, ED.out] at s1
        clear E hc hN
        go_wp2_with (go_at_call 127; refine (KR.out _).mono ?_; rintro e w1 ⟨rfl, rfl⟩)
        go_ret
        exact ⟨rfl, rfl⟩
    · obtain rfl : k = s.size := by omega
      have ED := Lib.hid (HR.out s.size hz hN.out hk (fun h => absurd h (by omega)))
      have s1 := cutMidR s (at_ : Int) s.size (by omega) (by omega) (by omega)
      rw [Int.toNat_natCast, Int.toNat_natCast, ED.out] at s1
      clear hN
      go_wp2
      go_ret
      exact ⟨rfl, rfl⟩
theorem cp_other {c : Nat} (h : rnN c = true) : nmN cpN c = !smN c := by
  unfold rnN at h; unfold nmN
  cases h1 : smN c with
  | true =>
    obtain ⟨a, b⟩ : dgN c = false ∧ cpN c = false := by
      simp only [smN, Bool.and_eq_true, decide_eq_true_eq] at h1
      refine ⟨by unfold dgN; simp; omega, by unfold cpN; simp; omega⟩
    rw [a, b]
    simp only [smN, Bool.and_eq_true, decide_eq_true_eq] at h1
    simp; omega
  | false => rw [h1] at h; simp only [Bool.false_or] at h; rw [h]; rfl
/-- A box of a token, anywhere. -/
structure RB (w : World) (g : Nat) (a0 a1 a2 a3 a4 a5 a6 a7 a8 : Value) : Prop where
  hb : w.heap[g]? = some (.cells #[a0, a1, a2, a3, a4, a5, a6, a7, a8] 159)
theorem RB.c {w : World} {g : Nat} {a0 a1 a2 a3 a4 a5 a6 a7 a8 : Value} (h : RB w g a0 a1 a2 a3 a4 a5 a6 a7 a8) :
    w.cell? ⟨g, 0, none⟩ = some a0 ∧ w.cell? ⟨g, 1, none⟩ = some a1 ∧ w.cell? ⟨g, 2, none⟩ = some a2 ∧ w.cell? ⟨g, 3, none⟩ = some a3 ∧ w.cell? ⟨g, 4, none⟩ = some a4 ∧ w.cell? ⟨g, 5, none⟩ = some a5 ∧ w.cell? ⟨g, 6, none⟩ = some a6 ∧ w.cell? ⟨g, 7, none⟩ = some a7 ∧ w.cell? ⟨g, 8, none⟩ = some a8 ∧ ∀ i, w.frozen? ⟨g, i, none⟩ = false := by
  refine ⟨?_, ?_, ?_, ?_, ?_, ?_, ?_, ?_, ?_, fun i => Joins.unfrozen_of_block h.hb i⟩ <;> simp [World.cell?, h.hb]
theorem RB.set9 {w : World} {g : Nat} {b0 b1 b2 b3 b4 b5 b6 b7 b8 : Value} (h : RB w g b0 b1 b2 b3 b4 b5 b6 b7 b8) (a0 a1 a2 a3 a4 a5 a6 a7 a8 : Value) :
    RB ((((((((((w.setCell ⟨g, 0, none⟩ a0).setCell ⟨g, 1, none⟩ a1).setCell ⟨g, 2, none⟩ a2).setCell ⟨g, 3, none⟩ a3).setCell ⟨g, 4, none⟩ a4).setCell ⟨g, 5, none⟩ a5).setCell ⟨g, 6, none⟩ a6).setCell ⟨g, 7, none⟩ a7).setCell ⟨g, 8, none⟩ a8)) g a0 a1 a2 a3 a4 a5 a6 a7 a8 := by
  refine ⟨?_⟩
  have h := h.hb
  have h0 : (w.setCell ⟨g, 0, none⟩ a0).heap[g]? = some (.cells #[a0, b1, b2, b3, b4, b5, b6, b7, b8] 159) := Joins.block_setCell (i := 0) h a0
  generalize w.setCell ⟨g, 0, none⟩ a0 = w at h0 ⊢
  have h1 : (w.setCell ⟨g, 1, none⟩ a1).heap[g]? = some (.cells #[a0, a1, b2, b3, b4, b5, b6, b7, b8] 159) := Joins.block_setCell (i := 1) h0 a1
  generalize w.setCell ⟨g, 1, none⟩ a1 = w at h1 ⊢
  have h2 : (w.setCell ⟨g, 2, none⟩ a2).heap[g]? = some (.cells #[a0, a1, a2, b3, b4, b5, b6, b7, b8] 159) := Joins.block_setCell (i := 2) h1 a2
  generalize w.setCell ⟨g, 2, none⟩ a2 = w at h2 ⊢
  have h3 : (w.setCell ⟨g, 3, none⟩ a3).heap[g]? = some (.cells #[a0, a1, a2, a3, b4, b5, b6, b7, b8] 159) := Joins.block_setCell (i := 3) h2 a3
  generalize w.setCell ⟨g, 3, none⟩ a3 = w at h3 ⊢
  have h4 : (w.setCell ⟨g, 4, none⟩ a4).heap[g]? = some (.cells #[a0, a1, a2, a3, a4, b5, b6, b7, b8] 159) := Joins.block_setCell (i := 4) h3 a4
  generalize w.setCell ⟨g, 4, none⟩ a4 = w at h4 ⊢
  have h5 : (w.setCell ⟨g, 5, none⟩ a5).heap[g]? = some (.cells #[a0, a1, a2, a3, a4, a5, b6, b7, b8] 159) := Joins.block_setCell (i := 5) h4 a5
  generalize w.setCell ⟨g, 5, none⟩ a5 = w at h5 ⊢
  have h6 : (w.setCell ⟨g, 6, none⟩ a6).heap[g]? = some (.cells #[a0, a1, a2, a3, a4, a5, a6, b7, b8] 159) := Joins.block_setCell (i := 6) h5 a6
  generalize w.setCell ⟨g, 6, none⟩ a6 = w at h6 ⊢
  have h7 : (w.setCell ⟨g, 7, none⟩ a7).heap[g]? = some (.cells #[a0, a1, a2, a3, a4, a5, a6, a7, b8] 159) := Joins.block_setCell (i := 7) h6 a7
  generalize w.setCell ⟨g, 7, none⟩ a7 = w at h7 ⊢
  have h8 : (w.setCell ⟨g, 8, none⟩ a8).heap[g]? = some (.cells #[a0, a1, a2, a3, a4, a5, a6, a7, a8] 159) := Joins.block_setCell (i := 8) h7 a8
  exact h8
theorem belowR9 {B : Nat} {w0 w : World} {g : Nat} (h : Below B w0 w) (hg : B ≤ g) (a0 a1 a2 a3 a4 a5 a6 a7 a8 : Value) :
    Below B w0 (((((((((w.setCell ⟨g, 0, none⟩ a0).setCell ⟨g, 1, none⟩ a1).setCell ⟨g, 2, none⟩ a2).setCell ⟨g, 3, none⟩ a3).setCell ⟨g, 4, none⟩ a4).setCell ⟨g, 5, none⟩ a5).setCell ⟨g, 6, none⟩ a6).setCell ⟨g, 7, none⟩ a7).setCell ⟨g, 8, none⟩ a8) :=
  ((((((((h.setCell (p := ⟨g, 0, none⟩) hg _).setCell (p := ⟨g, 1, none⟩) hg _).setCell (p := ⟨g, 2, none⟩) hg _).setCell (p := ⟨g, 3, none⟩) hg _).setCell (p := ⟨g, 4, none⟩) hg _).setCell (p := ⟨g, 5, none⟩) hg _).setCell (p := ⟨g, 6, none⟩) hg _).setCell (p := ⟨g, 7, none⟩) hg _).setCell (p := ⟨g, 8, none⟩) hg _
def tokR (t : Tok) : Value := .agg #[.int .i64 t.k, .string (bs t.t), .int .i64 t.a, .int .i64 t.num, .int .i64 t.y, .int .i64 t.m, .int .i64 t.d, .int .i64 t.n, .int .i64 t.u]
def tokR0 : Tok := ⟨0, [], 0, 0, 0, 0, 0, 0, 0⟩
/-- What names answers. -/
def namV (p : Nat → Bool) (k : Int) (l : L) (at_ : Nat) : Tok × Int × Int := if (nameE p l).2 = 0 then (⟨k, l, at_, 0, 0, 0, 0, 0, 0⟩, 0, 0) else (tokR0, (at_ : Int) + ((nameE p l).1 : Nat), (nameE p l).2)
abbrev trEnd (v : Tok × Int × Int) : Ending := .returned (.tuple #[tokR v.1, .int .i64 v.2.1, .int .i64 v.2.2])
set_option maxRecDepth 100000 in
set_option maxHeartbeats 2000000 in
theorem rnames_capital (s : ByteArray) (at_ : Nat) (w : World) (h1 : 1 ≤ s.size) (hs : at_ + s.size ≤ 9223372036854775807) (hall : ∀ i, i < s.size → rnN (nthN (lst s) i) = true) (hh : cpN (nthN (lst s) 0) = true) :
    Calls Tryz.prog 113 #[.string s, .int .i64 (at_ : Int)] w fun e w' => e = trEnd (namV cpN 2 (lst s) at_) ∧ Below w.heap.size w w' := by
  obtain ⟨V, hV⟩ : ∃ V, namV cpN 2 (lst s) at_ = V := ⟨_, rfl⟩
  have HO := Lib.hid (p := ∀ k : Nat, (∀ i, i < k → nmN cpN (nthN (lst s) i) = true) → k < s.size → nmN cpN (nthN (lst s) k) = false → V = (tokR0, (at_ : Int) + (k : Int), 61)) (fun k a b c => by
    have e : nameE cpN (lst s) = (k, 61) := by
      unfold nameE
      rw [nameI_at a (by rw [lst_len]; omega) (fun _ => c), if_pos (by rw [lst_len]; exact b)]
    rw [← hV]; unfold namV; rw [e]; rfl)
  have HX : (∀ i, i < s.size → nmN cpN (nthN (lst s) i) = true) → nameE cpN (lst s) = if 31 < s.size then (0, 6) else (0, 0) := fun a => by
    unfold nameE
    rw [nameI_at a (by rw [lst_len]; omega) (fun h => by rw [lst_len] at h; omega), if_neg (by rw [lst_len]; omega), lst_len]
  have HL := Lib.hid (p := (∀ i, i < s.size → nmN cpN (nthN (lst s) i) = true) → 31 < s.size → V = (tokR0, (at_ : Int), 6)) (fun a b => by
    have e := HX a
    rw [if_pos b] at e
    rw [← hV]; unfold namV; rw [e]; simp)
  have HK := Lib.hid (p := (∀ i, i < s.size → nmN cpN (nthN (lst s) i) = true) → ¬ 31 < s.size → V = (⟨2, lst s, at_, 0, 0, 0, 0, 0, 0⟩, 0, 0)) (fun a b => by
    have e := HX a
    rw [if_neg b] at e
    rw [← hV]; unfold namV; rw [e]; rfl)
  have HAll := Lib.hid hall
  have z0 : 0 < s.size := by omega
  rw [nth_lst z0] at hh
  have KH := Lib.hid (fun W => rcapital_any (s[0].toNat) W)
  rw [hh] at KH
  rw [hV]
  clear hV hall hh HX
  obtain ⟨w2, hw2⟩ : ∃ w2, (w.alloc (.cells #[.int .i64 0, .string ⟨#[]⟩, .int .i64 0, .int .i64 0, .int .i64 0, .int .i64 0, .int .i64 0, .int .i64 0, .int .i64 0] 159)).alloc (.cells #[.int .i64 2, .string s, .int .i64 (at_ : Int), .int .i64 0, .int .i64 0, .int .i64 0, .int .i64 0, .int .i64 0, .int .i64 0] 159) = w2 := ⟨_, rfl⟩
  have RZ := Lib.hid (p := RB w2 w.heap.size (.int .i64 0) (.string ⟨#[]⟩) (.int .i64 0) (.int .i64 0) (.int .i64 0) (.int .i64 0) (.int .i64 0) (.int .i64 0) (.int .i64 0)) ⟨by rw [← hw2]; exact (Below.heap_alloc _ _ _ (by simp)).trans (World.alloc_heap_new w _)⟩
  have RT := Lib.hid (p := RB w2 (w.heap.size + 1) (.int .i64 2) (.string s) (.int .i64 (at_ : Int)) (.int .i64 0) (.int .i64 0) (.int .i64 0) (.int .i64 0) (.int .i64 0) (.int .i64 0)) ⟨by rw [← hw2]; have := World.alloc_heap_new (w.alloc (.cells #[.int .i64 0, .string ⟨#[]⟩, .int .i64 0, .int .i64 0, .int .i64 0, .int .i64 0, .int .i64 0, .int .i64 0, .int .i64 0] 159)) (.cells #[.int .i64 2, .string s, .int .i64 (at_ : Int), .int .i64 0, .int .i64 0, .int .i64 0, .int .i64 0, .int .i64 0, .int .i64 0] 159); rwa [World.size_alloc] at this⟩
  have B2 := Lib.hid (p := Below w.heap.size w w2) (by rw [← hw2]; exact ((Below.refl _ _).alloc (Nat.le_refl _) _).alloc (by simp) _)
  obtain ⟨x0, x1, x2, x3, x4, x5, x6, x7, x8, xf⟩ := RT.out.c
  obtain ⟨y0, y1, y2, y3, y4, y5, y6, y7, y8, yf⟩ := RZ.out.c
  have HW := Lib.hid hw2
  clear hw2
  go_enter Tryz.func113, Tryz.ntmps113
  go_wp2_with (go_at_call 111; refine (KH.out _).mono ?_; rintro e w' ⟨rfl, hw⟩; have hw' := hw.symm; clear hw; subst hw')
  rw [HW.out]
  go_loop [8] (fun t => ∃ k : Nat, k ≤ s.size ∧ t = .int .i64 k ∧ RowKit.Hid (∀ i, i < k → nmN cpN (nthN (lst s) i) = true)) (fun t => s.size - intV t)
  case atStart => exact ⟨0, by omega, rfl, fun i hi => absurd hi (by omega)⟩
  case round =>
    obtain ⟨k, hk, rfl, hN⟩ := hrel
    by_cases hlt : k < s.size
    · have kc : (k : Int) < (s.size : Int) := by omega
      have E := nth_lst hlt
      have hr := HAll.out k hlt
      rw [E] at hr
      have KO := Lib.hid (fun W => rsmall_any (s[k].toNat) W)
      have kw : IntKind.i64.wrap ((k : Int) + 1) = (k : Int) + 1 := by simp [IntKind.wrap, IntKind.bits, IntKind.signed]; omega
      have kw2 : IntKind.i64.wrap ((at_ : Int) + (k : Int)) = (at_ : Int) + (k : Int) := by simp [IntKind.wrap, IntKind.bits, IntKind.signed]; omega
      have ME := Lib.hid (p := s.size - intV (.int .i64 ((k : Int) + 1)) < s.size - intV (.int .i64 (k : Int))) (by simp only [intV]; omega)
      have SO := cp_other hr
      cases ho : smN (s[k].toNat) with
      | true =>
        rw [ho] at KO SO
        have Y := Lib.hid (HO.out k hN.out hlt (by rw [E]; exact SO))
        have FIN := Lib.hid (RZ.out.set9 (.int .i64 0) (.string ⟨#[]⟩) (.int .i64 0) (.int .i64 0) (.int .i64 0) (.int .i64 0) (.int .i64 0) (.int .i64 0) (.int .i64 0))
        obtain ⟨r0, r1, r2, r3, r4, r5, r6, r7, r8, rf⟩ := FIN.out.c
        clear hN E ho SO hr
        go_wp2_with (go_at_call 128; refine (KO.out _).mono ?_; rintro e w' ⟨rfl, hw⟩; have hw' := hw.symm; clear hw; subst hw')
        exact bodyPost_ret (v := .tuple #[tokR tokR0, .int .i64 ((at_ : Int) + (k : Int)), .int .i64 61]) (by simp [results, Tryz.results113, go_sem, tokR, tokR0, bs, r0, r1, r2, r3, r4, r5, r6, r7, r8]) rfl ⟨by rw [Y.out], belowR9 B2.out (Nat.le_refl _) _ _ _ _ _ _ _ _ _⟩
      | false =>
        rw [ho] at KO SO
        have NX := Lib.hid (p := ∀ i, i < k + 1 → nmN cpN (nthN (lst s) i) = true) (fun i hi => by
          rcases (show i < k ∨ i = k by omega) with q | q
          · exact hN.out i q
          · rw [q, E]; exact SO)
        clear hN E ho SO hr
        go_wp2_with (go_at_call 128; refine (KO.out _).mono ?_; rintro e w' ⟨rfl, hw⟩; have hw' := hw.symm; clear hw; subst hw')
        go_round
        case rel => exact ⟨k + 1, by omega, by simp, NX.out⟩
        case measure => exact ME.out
    · obtain rfl : k = s.size := by omega
      by_cases h31 : 31 < s.size
      · have h31' : (31 : Int) < (s.size : Int) := by omega
        have Y := Lib.hid (HL.out hN.out h31)
        clear hN
        have FIN := Lib.hid (RZ.out.set9 (.int .i64 0) (.string ⟨#[]⟩) (.int .i64 0) (.int .i64 0) (.int .i64 0) (.int .i64 0) (.int .i64 0) (.int .i64 0) (.int .i64 0))
        obtain ⟨r0, r1, r2, r3, r4, r5, r6, r7, r8, rf⟩ := FIN.out.c
        go_wp2
        exact bodyPost_ret (v := .tuple #[tokR tokR0, .int .i64 (at_ : Int), .int .i64 6]) (by simp [results, Tryz.results113, go_sem, tokR, tokR0, bs, r0, r1, r2, r3, r4, r5, r6, r7, r8]) rfl ⟨by rw [Y.out], belowR9 B2.out (Nat.le_refl _) _ _ _ _ _ _ _ _ _⟩
      · have h31' : ¬ (31 : Int) < (s.size : Int) := by omega
        have Y := Lib.hid (HK.out hN.out h31)
        clear hN
        have ES := bs_lst s
        have FIN := Lib.hid (RZ.out.set9 (.int .i64 2) (.string s) (.int .i64 (at_ : Int)) (.int .i64 0) (.int .i64 0) (.int .i64 0) (.int .i64 0) (.int .i64 0) (.int .i64 0))
        obtain ⟨r0, r1, r2, r3, r4, r5, r6, r7, r8, rf⟩ := FIN.out.c
        go_wp2
        exact bodyPost_ret (v := .tuple #[tokR ⟨2, lst s, at_, 0, 0, 0, 0, 0, 0⟩, .int .i64 0, .int .i64 0]) (by simp [results, Tryz.results113, go_sem, tokR, ES, r0, r1, r2, r3, r4, r5, r6, r7, r8]) rfl ⟨by rw [Y.out], belowR9 B2.out (Nat.le_refl _) _ _ _ _ _ _ _ _ _⟩
end Go.Proofs.YtccjeipkljdhdaaGreatDoor

namespace Go.Proofs.YtccjeipkljdhdaaGreatDoor
namespace Lx
set_option linter.unusedVariables false
set_option linter.unusedSimpArgs false

end Lx
end Go.Proofs.YtccjeipkljdhdaaGreatDoor

namespace Go.Proofs.YtccjeipkljdhdaaGreatDoor
namespace Lx
set_option linter.unusedVariables false
set_option linter.unusedSimpArgs false

def nameB (p : Nat → Bool) (l : L) : Bool := !l.isEmpty && p (l.headD 0).toNat && decide ((nameE p l).2 = 0)
def curB : L → Bool
  | [a, b, c] => cpN a.toNat && cpN b.toNat && cpN c.toNat
  | _ => false
theorem nameE_ok {p : Nat → Bool} {l : L} (h : (nameE p l).2 = 0) : nameI p l = l.length ∧ l.length ≤ 31 ∧ nameE p l = (0, 0) := by
  have hl : nameI p l ≤ l.length := take_len _ l
  unfold nameE at h ⊢
  by_cases h1 : nameI p l < l.length
  · rw [if_pos h1] at h; cases h
  · rw [if_neg h1] at h ⊢
    by_cases h2 : 31 < l.length
    · rw [if_pos h2] at h; cases h
    · rw [if_neg h2]; exact ⟨by omega, by omega, rfl⟩
theorem takeW_all {p : UInt8 → Bool} {l : L} (h : (l.takeWhile p).length = l.length) : ∀ c ∈ l, p c = true := by
  have e : l.takeWhile p = l := by rw [take_eq, h, List.take_length]
  intro c hc
  rw [← e] at hc
  have key : ∀ (l : L) (x : UInt8), x ∈ l.takeWhile p → p x = true := by
    intro l
    induction l with
    | nil => intro x hx; simp at hx
    | cons d l ih =>
      intro x hx
      rw [List.takeWhile_cons] at hx
      split at hx
      · rcases List.mem_cons.1 hx with rfl | hx
        · assumption
        · exact ih x hx
      · simp at hx
  exact key l c hc
theorem takeW_self {p : UInt8 → Bool} : ∀ {l : L}, (∀ c ∈ l, p c = true) → l.takeWhile p = l
  | [], _ => rfl
  | c :: l, h => by
    rw [List.takeWhile_cons, if_pos (h c List.mem_cons_self), takeW_self (fun d hd => h d (List.mem_cons_of_mem _ hd))]
theorem nm_rn {p : Nat → Bool} (hp : ∀ c, p c = true → rnN c = true) {c : Nat} (h : nmN p c = true) : rnN c = true := by
  unfold nmN at h
  simp only [Bool.or_eq_true, decide_eq_true_eq] at h
  rcases h with (h | h) | h
  · exact hp c h
  · exact rn_dg h
  · subst h; rfl
theorem run_name {p : Nat → Bool} (hp : ∀ c, p c = true → rnN c = true) {l : L} (h : (nameE p l).2 = 0) : run l = l := by
  have hall := takeW_all (nameE_ok h).1
  exact takeW_self (fun c hc => nm_rn hp (hall c hc))
def z1 (t : Tok) : Tok := { t with a := 0 }
end Lx
end Go.Proofs.YtccjeipkljdhdaaGreatDoor

namespace Go.Proofs.YtccjeipkljdhdaaGreatDoor
open Go.RowKit Lx
set_option linter.unusedVariables false
set_option linter.unusedSimpArgs false

set_option maxHeartbeats 1000000 in
theorem nameErrorM_capital (s : ByteArray) (w : World) (hs : s.size ≤ 9223372036854775807) :
    Calls Tryz.prog 121 #[.string s, .func (.func 105) #[] #[]] w fun e w' => e = .returned (.tuple #[.int .i64 ((nameE cpN (lst s)).1 : Nat), .int .i64 (nameE cpN (lst s)).2]) ∧ w' = w := by
  obtain ⟨A, hA⟩ : ∃ A, nameE cpN (lst s) = A := ⟨_, rfl⟩
  have HO := Lib.hid (p := ∀ k, (∀ i, i < k → nmN cpN (nthN (lst s) i) = true) → k < s.size → nmN cpN (nthN (lst s) k) = false → A = (k, 61)) (fun k a b c => by
    rw [← hA]; unfold nameE
    rw [nameI_at a (by rw [lst_len]; omega) (fun _ => c), if_pos (by rw [lst_len]; exact b)])
  have HE := Lib.hid (p := (∀ i, i < s.size → nmN cpN (nthN (lst s) i) = true) → A = if 31 < s.size then (0, 6) else (0, 0)) (fun a => by
    rw [← hA]; unfold nameE
    rw [nameI_at a (by rw [lst_len]; omega) (fun h => by rw [lst_len] at h; omega), if_neg (by rw [lst_len]; omega), lst_len])
  rw [hA]
  clear hA
  go_enter Tryz.func121, Tryz.ntmps121
  go_wp2
  go_loop [10] (fun t => ∃ k : Nat, k ≤ s.size ∧ t = .int .i64 k ∧ RowKit.Hid (∀ i, i < k → nmN cpN (nthN (lst s) i) = true)) (fun t => s.size - intV t)
  case atStart => exact ⟨0, by omega, rfl, fun i hi => absurd hi (by omega)⟩
  case round =>
    obtain ⟨k, hk, rfl, hN⟩ := hrel
    by_cases hlt : k < s.size
    · have kc : (k : Int) < (s.size : Int) := by omega
      have E := nth_lst hlt
      have KL := Lib.hid (fun W => isCapital_any (s[k].toNat) W)
      have KD := Lib.hid (fun W => isDigit_any (s[k].toNat) W)
      have kw : IntKind.i64.wrap ((k : Int) + 1) = (k : Int) + 1 := by simp [IntKind.wrap, IntKind.bits, IntKind.signed]; omega
      have ME := Lib.hid (p := s.size - intV (.int .i64 ((k : Int) + 1)) < s.size - intV (.int .i64 (k : Int))) (by simp only [intV]; omega)
      have NX := Lib.hid (p := nmN cpN (s[k].toNat) = true → ∀ i, i < k + 1 → nmN cpN (nthN (lst s) i) = true) (fun g i hi => by
        rcases (show i < k ∨ i = k by omega) with q | q
        · exact hN.out i q
        · rw [q, E]; exact g)
      have NO := Lib.hid (p := nmN cpN (s[k].toNat) = false → A = (k, 61)) (fun g => HO.out k hN.out hlt (by rw [E]; exact g))
      clear hN E
      cases h1 : cpN (s[k].toNat) with
      | true =>
        rw [h1] at KL
        have Y := Lib.hid (NX.out (by unfold nmN; rw [h1]; rfl))
        clear h1
        go_wp2_with (go_at_call 105; refine (KL.out _).mono ?_; rintro e w1 ⟨rfl, rfl⟩)
        go_round
        case rel => exact ⟨k + 1, by omega, by simp, Y.out⟩
        case measure => exact ME.out
      | false =>
        rw [h1] at KL
        cases h2 : dgN (s[k].toNat) with
        | true =>
          rw [h2] at KD
          have Y := Lib.hid (NX.out (by unfold nmN; rw [h1, h2]; rfl))
          clear h1 h2
          go_wp2_with (first
            | (go_at_call 105; refine (KL.out _).mono ?_; rintro e w1 ⟨rfl, rfl⟩)
            | (go_at_call 135; refine (KD.out _).mono ?_; rintro e w1 ⟨rfl, rfl⟩))
          go_round
          case rel => exact ⟨k + 1, by omega, by simp, Y.out⟩
          case measure => exact ME.out
        | false =>
          rw [h2] at KD
          by_cases h3 : s[k].toNat = 95
          · have Y := Lib.hid (NX.out (by unfold nmN; rw [h1, h2, decide_eq_true h3]; rfl))
            have h3' : ((s[k].toNat : Int) != 95) = false := by rw [h3]; rfl
            clear h1 h2 h3
            go_wp2_with (first
              | (go_at_call 105; refine (KL.out _).mono ?_; rintro e w1 ⟨rfl, rfl⟩)
              | (go_at_call 135; refine (KD.out _).mono ?_; rintro e w1 ⟨rfl, rfl⟩))
            go_round
            case rel => exact ⟨k + 1, by omega, by simp, Y.out⟩
            case measure => exact ME.out
          · have Y := Lib.hid (NO.out (by unfold nmN; rw [h1, h2, decide_eq_false h3]; rfl))
            have h3' : ((s[k].toNat : Int) != 95) = true := by rw [bne_iff_ne]; omega
            clear h1 h2 h3
            go_wp2_with (first
              | (go_at_call 105; refine (KL.out _).mono ?_; rintro e w1 ⟨rfl, rfl⟩)
              | (go_at_call 135; refine (KD.out _).mono ?_; rintro e w1 ⟨rfl, rfl⟩))
            go_ret2
            rw [Y.out]
            exact ⟨rfl, rfl⟩
    · obtain rfl : k = s.size := by omega
      have Y := Lib.hid (HE.out hN.out)
      clear hN
      by_cases h31 : 31 < s.size
      · have h31' : (31 : Int) < (s.size : Int) := by omega
        rw [if_pos h31] at Y
        go_wp2
        go_ret2
        rw [Y.out]
        exact ⟨rfl, rfl⟩
      · have h31' : ¬ (31 : Int) < (s.size : Int) := by omega
        rw [if_neg h31] at Y
        go_wp2
        go_ret2
        rw [Y.out]
        exact ⟨rfl, rfl⟩
end Go.Proofs.YtccjeipkljdhdaaGreatDoor

namespace Go.Proofs.YtccjeipkljdhdaaGreatDoor
open Go.RowKit Go.Maps Lx
set_option linter.unusedVariables false
set_option linter.unusedSimpArgs false

theorem isEmpty_lst (s : ByteArray) : s.toList.isEmpty = (lst s).isEmpty := by
  obtain ⟨⟨l⟩⟩ := s
  rw [ByteArray.toList_mk]; rfl
set_option maxHeartbeats 1000000 in
theorem isName_capital (s : ByteArray) (w : World) (hs : s.size ≤ 9223372036854775807) :
    Calls Tryz.prog 104 #[.string s, .func (.func 105) #[] #[]] w fun e w' => e = .returned (.bool (nameB cpN (lst s))) ∧ w' = w := by
  by_cases h0 : s.size = 0
  · have e0 : (lst s).isEmpty = true := by
      have := lst_len s
      cases hl : lst s with
      | nil => rfl
      | cons c q => rw [hl] at this; simp at this; omega
    have e1 : s.toList.isEmpty = true := by rw [isEmpty_lst]; exact e0
    rw [show nameB cpN (lst s) = false by unfold nameB; rw [e0]; rfl]
    clear e0
    go_enter Tryz.func104, Tryz.ntmps104
    go_wp2
    go_ret
    exact ⟨rfl, rfl⟩
  · have h1 : 0 < s.size := by omega
    have e0 : (lst s).isEmpty = false := by
      have := lst_len s
      cases hl : lst s with
      | nil => rw [hl] at this; simp at this; omega
      | cons c q => rfl
    have e1 : s.toList.isEmpty = false := by rw [isEmpty_lst]; exact e0
    have EH : (List.headD (lst s) 0).toNat = s[0].toNat := by
      rw [← nth_lst h1]
      cases hl : lst s <;> rfl
    have KL := Lib.hid (fun W => isCapital_any (s[0].toNat) W)
    have NB : nameB cpN (lst s) = (cpN (s[0].toNat) && decide ((nameE cpN (lst s)).2 = 0)) := by unfold nameB; rw [e0, EH]; rfl
    rw [NB]
    cases hp : cpN (s[0].toNat) with
    | false =>
      rw [hp] at KL
      clear e0 EH NB hp
      go_enter Tryz.func104, Tryz.ntmps104
      go_wp2_with (go_at_call 105; refine (KL.out _).mono ?_; rintro e w1 ⟨rfl, rfl⟩)
      go_ret
      exact ⟨rfl, rfl⟩
    | true =>
      rw [hp] at KL
      have KN := Lib.hid (fun W => nameErrorM_capital s W hs)
      clear e0 EH NB hp
      generalize nameE cpN (lst s) = ne at *
      obtain ⟨ni, er⟩ := ne
      simp only at KN ⊢
      by_cases her : er = 0
      · subst her
        rw [decide_eq_true rfl]
        go_enter Tryz.func104, Tryz.ntmps104
        go_wp2_with (first
          | (go_at_call 105; refine (KL.out _).mono ?_; rintro e w1 ⟨rfl, rfl⟩)
          | (go_at_call 121; refine (KN.out _).mono ?_; rintro e w1 ⟨rfl, rfl⟩))
        go_ret
        exact ⟨rfl, rfl⟩
      · rw [decide_eq_false her]
        have er0 : (er == 0) = false := by rw [beq_eq_false_iff_ne]; exact her
        go_enter Tryz.func104, Tryz.ntmps104
        go_wp2_with (first
          | (go_at_call 105; refine (KL.out _).mono ?_; rintro e w1 ⟨rfl, rfl⟩)
          | (go_at_call 121; refine (KN.out _).mono ?_; rintro e w1 ⟨rfl, rfl⟩))
        go_ret
        exact ⟨by simp [her], rfl⟩

theorem capital_any (s : ByteArray) (w : World) (hs : s.size ≤ 9223372036854775807) : Calls Tryz.prog 76 #[.string s] w fun e w' => e = .returned (.bool (nameB cpN (lst s))) ∧ w' = w := by
  have KI := Lib.hid (fun W => isName_capital s W hs)
  go_enter Tryz.func76, Tryz.ntmps76
  go_wp2_with (go_at_call 104; refine (KI.out _).mono ?_; rintro e w1 ⟨rfl, rfl⟩)
  go_ret
  exact ⟨rfl, rfl⟩
theorem three_of {s : ByteArray} (h : s.size = 3) : lst s = [s[0], s[1], s[2]] := by
  have hl := lst_len s
  apply List.ext_getElem
  · rw [hl]; exact h
  · intro i h1 h2
    have e : ∀ k (hk : k < s.size) (hk' : k < (lst s).length), (lst s)[k]'hk' = s[k]'hk := fun k hk hk' => by
      have := nth_lst hk
      simp only [nthN] at this
      rw [List.getD_eq_getElem?_getD, List.getElem?_eq_getElem hk', Option.getD_some] at this
      exact UInt8.toNat_inj.1 this
    match i, h1, h2 with
    | 0, h1, _ => exact e 0 (by omega) h1
    | 1, h1, _ => exact e 1 (by omega) h1
    | 2, h1, _ => exact e 2 (by omega) h1
set_option maxHeartbeats 1000000 in
theorem currency_any (s : ByteArray) (w : World) : Calls Tryz.prog 78 #[.string s] w fun e w' => e = .returned (.bool (curB (lst s))) ∧ w' = w := by
  by_cases h3 : s.size = 3
  · have h3' : (s.size : Int) = 3 := by omega
    have hb : ((s.size : Int) == 3) = true := by rw [h3]; rfl
    have z0 : 0 < s.size := by omega
    have z1 : 1 < s.size := by omega
    have z2 : 2 < s.size := by omega
    have EC : curB (lst s) = (cpN (s[0]'z0).toNat && cpN (s[1]'z1).toNat && cpN (s[2]'z2).toNat) := by rw [three_of h3]; rfl
    rw [EC]
    clear EC
    have K0 := Lib.hid (fun W => isCapital_any (s[0].toNat) W)
    have K1 := Lib.hid (fun W => isCapital_any (s[1].toNat) W)
    have K2 := Lib.hid (fun W => isCapital_any (s[2].toNat) W)
    cases c0 : cpN (s[0].toNat) with
    | false =>
      rw [c0] at K0
      clear h3 h3'
      go_enter Tryz.func78, Tryz.ntmps78
      go_wp2_with (go_at_call 105; refine (K0.out _).mono ?_; rintro e w1 ⟨rfl, rfl⟩)
      go_ret
      exact ⟨rfl, rfl⟩
    | true =>
      rw [c0] at K0
      cases c1 : cpN (s[1].toNat) with
      | false =>
        rw [c1] at K1
        clear h3 h3'
        go_enter Tryz.func78, Tryz.ntmps78
        go_wp2_with (first
          | (go_at_call 105; have qq := K0; refine (K0.out _).mono ?_; rintro e w1 ⟨rfl, rfl⟩; clear K0)
          | (go_at_call 105; refine (K1.out _).mono ?_; rintro e w1 ⟨rfl, rfl⟩))
        go_ret
        exact ⟨rfl, rfl⟩
      | true =>
        rw [c1] at K1
        generalize cpN (s[2].toNat) = b2 at *
        clear h3 h3'
        go_enter Tryz.func78, Tryz.ntmps78
        go_wp2_with (first
          | (go_at_call 105; have qq := K0; refine (K0.out _).mono ?_; rintro e w1 ⟨rfl, rfl⟩; clear K0)
          | (go_at_call 105; have qq := K1; refine (K1.out _).mono ?_; rintro e w1 ⟨rfl, rfl⟩; clear K1)
          | (go_at_call 105; refine (K2.out _).mono ?_; rintro e w1 ⟨rfl, rfl⟩))
        go_ret
        exact ⟨rfl, rfl⟩
  · have h3' : ¬ (s.size : Int) = 3 := by omega
    have hb : ((s.size : Int) == 3) = false := by rw [beq_eq_false_iff_ne]; exact h3'
    have e : curB (lst s) = false := by
      have := lst_len s
      match hl : lst s with
      | [] => rfl
      | [a] => rfl
      | [a, b] => rfl
      | [a, b, c] => rw [hl] at this; simp at this; omega
      | a :: b :: c :: d :: q => rfl
    rw [e]
    clear e h3
    go_enter Tryz.func78, Tryz.ntmps78
    go_wp2
    go_ret
    exact ⟨rfl, rfl⟩
end Go.Proofs.YtccjeipkljdhdaaGreatDoor
