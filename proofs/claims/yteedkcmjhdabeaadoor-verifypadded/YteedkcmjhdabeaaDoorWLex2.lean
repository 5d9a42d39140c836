/-
  WALKS: runOf, nameError, beginsWithDate, beginsWithPair, markToken.
-/
import Derived.Test.YteedkcmjhdabeaaDoorWLex1
import Derived.Test.YteedkcmjhdabeaaDoorPlainLex2
namespace Go.Proofs.YteedkcmjhdabeaaDoor
open Go.RowKit Lx
set_option linter.unusedVariables false
set_option linter.unusedSimpArgs false

def lst (s : ByteArray) : L := s.data.toList
def bs (l : L) : ByteArray := ⟨l.toArray⟩
theorem lst_bs (l : L) : lst (bs l) = l := by simp [lst, bs]
theorem bs_lst (s : ByteArray) : bs (lst s) = s := by obtain ⟨⟨l⟩⟩ := s; rfl
theorem bs_size (l : L) : (bs l).size = l.length := by simp [bs, ByteArray.size]
theorem lst_len (s : ByteArray) : (lst s).length = s.size := by
  show s.data.toList.length = s.size
  rw [Array.length_toList]; rfl
theorem nth_lst {s : ByteArray} {k : Nat} (h : k < s.size) : nthN (lst s) k = s[k].toNat := by
  have h' : k < s.data.toList.length := by rw [Array.length_toList]; exact h
  have : (lst s).getD k 0 = s[k] := by
    unfold lst
    rw [List.getD_eq_getElem?_getD, List.getElem?_eq_getElem h', Option.getD_some]
    rfl
  unfold nthN; rw [this]
theorem cutTo (s : ByteArray) (k : Int) (h0 : 0 ≤ k) (hk : k ≤ s.size) (W : World) : (Instr.slice 9 (.string s) none (some (.int .i64 k)) none).run Tryd.prog W = .ok (.string (bs ((lst s).take k.toNat))) W := by
  rw [run_slice_string_h W 9 _ (by kernel_rfl) .i64 k h0 hk]
  have : s.extract 0 k.toNat = bs ((lst s).take k.toNat) := by
    obtain ⟨⟨l⟩⟩ := s
    apply ByteArray.ext
    rw [ByteArray.data_extract]
    simp [bs, lst]
  rw [this]
theorem cutFrom (s : ByteArray) (k : Int) (h0 : 0 ≤ k) (hk : k ≤ s.size) (W : World) : (Instr.slice 9 (.string s) (some (.int .i64 k)) none none).run Tryd.prog W = .ok (.string (bs ((lst s).drop k.toNat))) W := by
  rw [run_slice_string_l W 9 _ (by kernel_rfl) .i64 k h0 hk]
  have : s.extract k.toNat s.size = bs ((lst s).drop k.toNat) := by
    obtain ⟨⟨l⟩⟩ := s
    apply ByteArray.ext
    rw [ByteArray.data_extract]
    simp [bs, lst, ByteArray.size]
    try exact List.take_of_length_le (by simp)
  rw [this]
theorem takeW_at (p : UInt8 → Bool) : ∀ (l : L) (k : Nat), (∀ i, i < k → p (l.getD i 0) = true) → k ≤ l.length → (k < l.length → p (l.getD k 0) = false) → l.takeWhile p = l.take k
  | [], k, _, _, _ => by simp
  | c :: l, 0, _, _, h => by have := h (by simp); simp at this; simp [this]
  | c :: l, k + 1, h1, h2, h3 => by
    have h0 := h1 0 (by omega)
    simp at h0
    simp only [List.takeWhile_cons, h0, if_true, List.take_succ_cons]
    rw [takeW_at p l k (fun i hi => by simpa using h1 (i + 1) (by omega)) (by simpa using h2) (fun hk => by simpa using h3 (by simpa using hk))]
theorem run_at {l : L} {k : Nat} (h : ∀ i, i < k → rnN (nthN l i) = true) (hk : k ≤ l.length) (he : k < l.length → rnN (nthN l k) = false) : run l = l.take k := takeW_at _ l k h hk he
theorem nameI_at {p : Nat → Bool} {l : L} {k : Nat} (h : ∀ i, i < k → nmN p (nthN l i) = true) (hk : k ≤ l.length) (he : k < l.length → nmN p (nthN l k) = false) : nameI p l = k := by
  unfold nameI
  rw [takeW_at (fun c => nmN p c.toNat) l k h hk he, List.length_take]
  omega
def intV (t : Value) : Nat := match t with | .int _ z => z.toNat | _ => 0

set_option maxHeartbeats 1000000 in
theorem nameError_capital (s : ByteArray) (w : World) (hs : s.size ≤ 9223372036854775806) :
    Calls Tryd.prog 55 #[.string s, .func (.func 49) #[] #[]] w fun e w' => e = .returned (.tuple #[.int .i64 ((nameE cpN (lst s)).1 : Nat), .int .i64 (nameE cpN (lst s)).2]) ∧ w' = w := by
  obtain ⟨A, hA⟩ : ∃ A, nameE cpN (lst s) = A := ⟨_, rfl⟩
  have HO := Lib.hid (p := ∀ k, (∀ i, i < k → nmN cpN (nthN (lst s) i) = true) → k < s.size → nmN cpN (nthN (lst s) k) = false → A = (k, 61)) (fun k a b c => by
    rw [← hA]; unfold nameE
    rw [nameI_at a (by rw [lst_len]; omega) (fun _ => c), if_pos (by rw [lst_len]; exact b)])
  have HE := Lib.hid (p := (∀ i, i < s.size → nmN cpN (nthN (lst s) i) = true) → A = if 31 < s.size then (0, 6) else (0, 0)) (fun a => by
    rw [← hA]; unfold nameE
    rw [nameI_at a (by rw [lst_len]; omega) (fun h => by rw [lst_len] at h; omega), if_neg (by rw [lst_len]; omega), lst_len])
  rw [hA]
  clear hA
  go_enter Tryd.func55, Tryd.ntmps55
  go_wp2
  go_loop [10] (fun t => ∃ k : Nat, k ≤ s.size ∧ t = .int .i64 k ∧ RowKit.Hid (∀ i, i < k → nmN cpN (nthN (lst s) i) = true)) (fun t => s.size - intV t)
  case atStart => exact ⟨0, by omega, rfl, fun i hi => absurd hi (by omega)⟩
  case round =>
    obtain ⟨k, hk, rfl, hN⟩ := hrel
    by_cases hlt : k < s.size
    · have kc : (k : Int) < (s.size : Int) := by omega
      have E := nth_lst hlt
      have KL := Lib.hid (fun W => isCapital_any (s[k].toNat) W)
      have KD := Lib.hid (fun W => isDigit_any (s[k].toNat) W)
      have kw : IntKind.i64.wrap ((k : Int) + 1) = (k : Int) + 1 := by simp [IntKind.wrap, IntKind.bits, IntKind.signed]; omega
      have ME := Lib.hid (p := s.size - intV (.int .i64 ((k : Int) + 1)) < s.size - intV (.int .i64 (k : Int))) (by simp only [intV]; omega)
      have NX := Lib.hid (p := nmN cpN (s[k].toNat) = true → ∀ i, i < k + 1 → nmN cpN (nthN (lst s) i) = true) (fun g i hi => by
        rcases (show i < k ∨ i = k by omega) with q | q
        · exact hN.out i q
        · rw [q, E]; exact g)
      have NO := Lib.hid (p := nmN cpN (s[k].toNat) = false → A = (k, 61)) (fun g => HO.out k hN.out hlt (by rw [E]; exact g))
      clear hN E
      cases h1 : cpN (s[k].toNat) with
      | true =>
        rw [h1] at KL
        have Y := Lib.hid (NX.out (by unfold nmN; rw [h1]; rfl))
        clear h1
        go_wp2_with (go_at_call 49; refine (KL.out _).mono ?_; rintro e w1 ⟨rfl, rfl⟩)
        go_round
        case rel => exact ⟨k + 1, by omega, by simp, Y.out⟩
        case measure => exact ME.out
      | false =>
        rw [h1] at KL
        cases h2 : dgN (s[k].toNat) with
        | true =>
          rw [h2] at KD
          have Y := Lib.hid (NX.out (by unfold nmN; rw [h1, h2]; rfl))
          clear h1 h2
          go_wp2_with (first
            | (go_at_call 49; refine (KL.out _).mono ?_; rintro e w1 ⟨rfl, rfl⟩)
            | (go_at_call 59; refine (KD.out _).mono ?_; rintro e w1 ⟨rfl, rfl⟩))
          go_round
          case rel => exact ⟨k + 1, by omega, by simp, Y.out⟩
          case measure => exact ME.out
        | false =>
          rw [h2] at KD
          by_cases h3 : s[k].toNat = 95
          · have Y := Lib.hid (NX.out (by unfold nmN; rw [h1, h2, decide_eq_true h3]; rfl))
            have h3' : ((s[k].toNat : Int) != 95) = false := by rw [h3]; rfl
            clear h1 h2 h3
            go_wp2_with (first
              | (go_at_call 49; refine (KL.out _).mono ?_; rintro e w1 ⟨rfl, rfl⟩)
              | (go_at_call 59; refine (KD.out _).mono ?_; rintro e w1 ⟨rfl, rfl⟩))
            go_round
            case rel => exact ⟨k + 1, by omega, by simp, Y.out⟩
            case measure => exact ME.out
          · have Y := Lib.hid (NO.out (by unfold nmN; rw [h1, h2, decide_eq_false h3]; rfl))
            have h3' : ((s[k].toNat : Int) != 95) = true := by rw [bne_iff_ne]; omega
            clear h1 h2 h3
            go_wp2_with (first
              | (go_at_call 49; refine (KL.out _).mono ?_; rintro e w1 ⟨rfl, rfl⟩)
              | (go_at_call 59; refine (KD.out _).mono ?_; rintro e w1 ⟨rfl, rfl⟩))
            go_ret2
            rw [Y.out]
            exact ⟨rfl, rfl⟩
    · obtain rfl : k = s.size := by omega
      have Y := Lib.hid (HE.out hN.out)
      clear hN
      by_cases h31 : 31 < s.size
      · have h31' : (31 : Int) < (s.size : Int) := by omega
        rw [if_pos h31] at Y
        go_wp2
        go_ret2
        rw [Y.out]
        exact ⟨rfl, rfl⟩
      · have h31' : ¬ (31 : Int) < (s.size : Int) := by omega
        rw [if_neg h31] at Y
        go_wp2
        go_ret2
        rw [Y.out]
        exact ⟨rfl, rfl⟩
end Go.Proofs.YteedkcmjhdabeaaDoor
