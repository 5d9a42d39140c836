import Derived.Test.YtccjeipkljdhdaaGreatDoorXBE
import Derived.Test.YtccjeipkljdhdaaGreatDoorXAS
import Derived.Test.YtccjeipkljdhdaaGreatDoorXAT
import Derived.Test.YtccjeipkljdhdaaGreatDoorXBD
import Derived.Test.YtccjeipkljdhdaaGreatDoorXBF
namespace Go.Proofs.YtccjeipkljdhdaaGreatDoor
open Go.RowKit
set_option linter.unusedVariables false
set_option linter.unusedSimpArgs false

def rmA (c : Int) : Bool := c != 59
/-- What stands while a line's words are looked for: from -1: none is open. -/
structure WdI (s : ByteArray) (us : List ByteArray) (from_ : Int) (i : Nat) : Prop where
  wi : ∃ (bg : Nat) (op : Bool), WI s i bg op us ∧ from_ = if op = true then (bg : Int) else -1
  len : us.length ≤ i
theorem WdI.bd {s : ByteArray} {us : List ByteArray} {f : Int} {i : Nat} (h : WdI s us f i) : f = -1 ∨ ∃ b : Nat, f = (b : Int) ∧ b ≤ i := by
  obtain ⟨bg, op, h1, h2⟩ := h.wi
  rcases h1 with ⟨rfl, q, _⟩ | ⟨rfl, _⟩
  · rw [if_pos rfl] at h2
    exact .inr ⟨bg, h2, q⟩
  · rw [if_neg (by decide)] at h2
    exact .inl h2
theorem WdI.blank0 {s : ByteArray} {us : List ByteArray} {i : Nat} (h : WdI s us (-1) i) (hi : i < s.size) (y : bkA (yb s i) = true) : WdI s us (-1) (i + 1) := by
  obtain ⟨bg, op, h1, h2⟩ := h.wi
  have e : op = false := by
    cases op with
    | false => rfl
    | true => rw [if_pos rfl] at h2; omega
  subst e
  exact ⟨⟨bg, false, by simpa using h1.blank hi y bg, rfl⟩, by have := h.len; omega⟩
theorem WdI.blank1 {s : ByteArray} {us : List ByteArray} {b i : Nat} (h : WdI s us (b : Int) i) (hi : i < s.size) (y : bkA (yb s i) = true) : WdI s (us ++ [s.extract b i]) (-1) (i + 1) := by
  obtain ⟨bg, op, h1, h2⟩ := h.wi
  have e : op = true := by
    cases op with
    | true => rfl
    | false => rw [if_neg (by decide)] at h2; omega
  subst e
  rw [if_pos rfl] at h2
  obtain rfl : b = bg := by omega
  exact ⟨⟨b, false, by simpa using h1.blank hi y b, rfl⟩, by have := h.len; simp; omega⟩
theorem one_word {s : ByteArray} {i : Nat} (hi : i < s.size) (y : bkA (yb s i) = false) (r : yb s i ≠ 59) : ∀ j, j < 1 → i + j < s.size ∧ wrA (yb s (i + j)) = true := by
  intro j hj
  obtain rfl : j = 0 := by omega
  refine ⟨hi, ?_⟩
  rw [Nat.add_zero]
  unfold wrA
  have : 0 ≤ yb s i := by rw [yb_lt hi]; omega
  rw [y]
  simp [r, this]
theorem WdI.word1 {s : ByteArray} {us : List ByteArray} {b i : Nat} (h : WdI s us (b : Int) i) (hi : i < s.size) (y : bkA (yb s i) = false) (r : yb s i ≠ 59) : WdI s us (b : Int) (i + 1) := by
  obtain ⟨bg, op, h1, h2⟩ := h.wi
  have e : op = true := by
    cases op with
    | true => rfl
    | false => rw [if_neg (by decide)] at h2; omega
  subst e
  exact ⟨⟨bg, true, by simpa using h1.word (one_word hi y r) (by omega), h2⟩, by have := h.len; omega⟩
theorem WdI.word0 {s : ByteArray} {us : List ByteArray} {i : Nat} (h : WdI s us (-1) i) (hi : i < s.size) (y : bkA (yb s i) = false) (r : yb s i ≠ 59) : WdI s us (i : Int) (i + 1) := by
  obtain ⟨bg, op, h1, h2⟩ := h.wi
  have e : op = false := by
    cases op with
    | false => rfl
    | true => rw [if_pos rfl] at h2; omega
  subst e
  exact ⟨⟨i, true, by simpa using h1.word (one_word hi y r) (by omega), rfl⟩, by have := h.len; omega⟩
theorem WdI.fin {s : ByteArray} {us : List ByteArray} {f : Int} {E : Nat} (h : WdI s us f E) (hE : E = fy rmA s 0) : (∀ b : Nat, f = (b : Int) → wdsL s 0 = us ++ [s.extract b E]) ∧ (f = -1 → wdsL s 0 = us) := by
  obtain ⟨bg, op, h1, h2⟩ := h.wi
  have le : E ≤ s.size := by rw [hE]; exact fy_le (Nat.zero_le _)
  have e : wdsL s 0 = (if op = true then us ++ [s.extract bg E] else us) := by
    by_cases q : E < s.size
    · refine h1.rem ?_
      have out := fy_out rmA s 0
      rw [← hE] at out
      have : ¬ rmA (yb s E) = true := fun z => out ⟨q, z⟩
      simpa [rmA] using this
    · have hs : E = s.size := by omega
      have := h1.end q le
      rw [← hs] at this
      exact this
  refine ⟨fun b hb => ?_, fun hb => ?_⟩
  · cases op with
    | true => rw [if_pos rfl] at h2 e; rw [e, show b = bg by omega]
    | false => rw [if_neg (by decide)] at h2; omega
  · cases op with
    | true => rw [if_pos rfl] at h2; omega
    | false => rw [e]; rfl
theorem fy_before {p : Int → Bool} {s : ByteArray} : ∀ (n i : Nat), s.size - i = n → ∀ j, i ≤ j → j < fy p s i → p (yb s j) = true
  | 0, i, hn, j, h1, h2 => by
    rw [fy_stop (fun q => by omega)] at h2; omega
  | n + 1, i, hn, j, h1, h2 => by
    by_cases q : i < s.size ∧ p (yb s i) = true
    · by_cases e : i = j
      · rw [← e]; exact q.2
      · rw [fy_go q.1 q.2] at h2
        exact fy_before n (i + 1) (by omega) j (by omega) h2
    · rw [fy_stop q] at h2; omega
/-- A line's words, of the call's own. -/
def WdE (w : World) (s : ByteArray) (e : Ending) (w' : World) : Prop := ∃ v, e = .returned v ∧ OwQ w' w.heap.size v (wdsL s 0) ∧ Below w.heap.size w w'
set_option maxRecDepth 100000 in
set_option maxHeartbeats 4000000 in
theorem wordsD_any (s : ByteArray) (hs : s.size ≤ 16777216) (w : World) :
    Calls Tryz.prog 27 #[.string s] w fun e w' => WdE w s e w' := by
  have hmax : s.size ≤ maxLen := by unfold maxLen; omega
  go_enter Tryz.func27, Tryz.ntmps27
  go_wp2
  go_loop [4] (fun t => ∃ k : Nat, t = .int .i64 (k : Int) ∧ k ≤ s.size ∧ RowKit.Hid (fy rmA s 0 = fy rmA s k)) (fun t => s.size - (intOf t).toNat)
  case atStart => exact ⟨0, rfl, Nat.zero_le _, rfl⟩
  case round =>
    obtain ⟨k, rfl, hk, HE⟩ := hrel
    by_cases hlt : k < s.size
    · have kc : (k : Int) < (s.size : Int) := by omega
      have yl := yb_lt hlt
      by_cases hc : s[k].toNat = 59
      · have E0 := Lib.hid (p := k = fy rmA s 0) (by rw [HE.out]; exact (fy_stop (fun q => by have := q.2; rw [yl, hc] at this; exact absurd this (by decide))).symm)
        clear yl HE
        go_wp2
        go_loopw [3, 5, 6] (fun v t5 t6 W => ∃ (j : Nat) (f : Int) (us : List ByteArray), t5 = .int .i64 f ∧ t6 = .int .i64 (j : Int) ∧ j ≤ k ∧ RowKit.Hid (WdI s us f j) ∧ RowKit.Hid (OwQ W w.heap.size v us) ∧ RowKit.Hid (Below w.heap.size w W)) (fun _ _ t _ => k - (intOf t).toNat)
        case atStart => exact ⟨0, -1, [], rfl, rfl, Nat.zero_le _, ⟨⟨0, false, .inr ⟨rfl, rfl⟩, rfl⟩, Nat.le_refl _⟩, World.ownsRow_nil _ _ _ _, Below.refl _ _⟩
        case round =>
          rename World => W
          obtain ⟨j, f, us, rfl, rfl, hjk0, HI, HO, HB⟩ := hrel
          have lb : us.length ≤ 1073741824 := by have := HI.out.len; omega
          by_cases hjk : j < k
          · have hj : j < s.size := by omega
            have jc : (j : Int) < (k : Int) := by omega
            have jc2 : (j : Int) < (s.size : Int) := by omega
            have jc3 : (j : Int) ≤ (s.size : Int) := by omega
            have yl := yb_lt hj
            by_cases hc : s[j].toNat = 32
            · have bt : bkA (yb s j) = true := by rw [yl]; simp [bkA, hc]
              rcases HI.out.bd with rfl | ⟨b, rfl, hb⟩
              · have C1 := Lib.hid (HI.out.blank0 hj bt)
                clear yl bt
                go_wp2
                go_roundw
                case rel => exact ⟨j + 1, -1, us, rfl, by go_num, by omega, C1, HO, HB⟩
                case measure => simp [intOf]; omega
              · have C1 := Lib.hid (HI.out.blank1 hj bt)
                clear yl bt
                have b0 : (0 : Int) ≤ (b : Int) := by omega
                have b1 : (b : Int) ≤ (j : Int) := by omega
                go_wp2_with (at_builtin; refine wp_stA _ w.heap.size (s.extract b j) us rfl _ _ rfl _ rfl rfl HO.out lb HB.out.size ?_; intro v3 w3 o3 g3; have O3 := Lib.hid o3; have B3 := Lib.hid ((HB.out.alloc HB.out.size _).grown g3 (Nat.le_trans HB.out.size (by simp)) (fun k e => (World.ownsRow.lt HO.out k e).1)); clear o3 g3)
                go_roundw
                case rel => exact ⟨j + 1, -1, us ++ [s.extract b j], rfl, by go_num, by omega, C1, O3, B3⟩
                case measure => simp [intOf]; omega
            by_cases hc1 : s[j].toNat = 9
            · have bt : bkA (yb s j) = true := by rw [yl]; simp [bkA, hc1]
              rcases HI.out.bd with rfl | ⟨b, rfl, hb⟩
              · have C1 := Lib.hid (HI.out.blank0 hj bt)
                clear yl bt
                go_wp2
                go_roundw
                case rel => exact ⟨j + 1, -1, us, rfl, by go_num, by omega, C1, HO, HB⟩
                case measure => simp [intOf]; omega
              · have C1 := Lib.hid (HI.out.blank1 hj bt)
                clear yl bt
                have b0 : (0 : Int) ≤ (b : Int) := by omega
                have b1 : (b : Int) ≤ (j : Int) := by omega
                go_wp2_with (at_builtin; refine wp_stA _ w.heap.size (s.extract b j) us rfl _ _ rfl _ rfl rfl HO.out lb HB.out.size ?_; intro v3 w3 o3 g3; have O3 := Lib.hid o3; have B3 := Lib.hid ((HB.out.alloc HB.out.size _).grown g3 (Nat.le_trans HB.out.size (by simp)) (fun k e => (World.ownsRow.lt HO.out k e).1)); clear o3 g3)
                go_roundw
                case rel => exact ⟨j + 1, -1, us ++ [s.extract b j], rfl, by go_num, by omega, C1, O3, B3⟩
                case measure => simp [intOf]; omega
            by_cases hc2 : s[j].toNat = 13
            · have bt : bkA (yb s j) = true := by rw [yl]; simp [bkA, hc2]
              rcases HI.out.bd with rfl | ⟨b, rfl, hb⟩
              · have C1 := Lib.hid (HI.out.blank0 hj bt)
                clear yl bt
                go_wp2
                go_roundw
                case rel => exact ⟨j + 1, -1, us, rfl, by go_num, by omega, C1, HO, HB⟩
                case measure => simp [intOf]; omega
              · have C1 := Lib.hid (HI.out.blank1 hj bt)
                clear yl bt
                have b0 : (0 : Int) ≤ (b : Int) := by omega
                have b1 : (b : Int) ≤ (j : Int) := by omega
                go_wp2_with (at_builtin; refine wp_stA _ w.heap.size (s.extract b j) us rfl _ _ rfl _ rfl rfl HO.out lb HB.out.size ?_; intro v3 w3 o3 g3; have O3 := Lib.hid o3; have B3 := Lib.hid ((HB.out.alloc HB.out.size _).grown g3 (Nat.le_trans HB.out.size (by simp)) (fun k e => (World.ownsRow.lt HO.out k e).1)); clear o3 g3)
                go_roundw
                case rel => exact ⟨j + 1, -1, us ++ [s.extract b j], rfl, by go_num, by omega, C1, O3, B3⟩
                case measure => simp [intOf]; omega
            have bt : bkA (yb s j) = false := by rw [yl]; simp [bkA]; omega
            have q1 : ((s[j].toNat : Int) == 32) = false := by simp; omega
            have q2 : ((s[j].toNat : Int) == 9) = false := by simp; omega
            have q3 : ((s[j].toNat : Int) == 13) = false := by simp; omega
            have rt : yb s j ≠ 59 := by have := fy_before (p := rmA) (s := s) _ 0 rfl j (Nat.zero_le _) (by rw [← E0.out]; exact hjk); simpa [rmA] using this
            rcases HI.out.bd with rfl | ⟨b, rfl, hb⟩
            · have C1 := Lib.hid (HI.out.word0 hj bt rt)
              clear yl bt rt
              go_wp2
              go_roundw
              case rel => exact ⟨j + 1, (j : Int), us, rfl, by go_num, by omega, C1, HO, HB⟩
              case measure => simp [intOf]; omega
            · have C1 := Lib.hid (HI.out.word1 hj bt rt)
              clear yl bt rt
              have b0 : (0 : Int) ≤ (b : Int) := by omega
              have b2 : ¬ (b : Int) < 0 := by omega
              go_wp2
              go_roundw
              case rel => exact ⟨j + 1, (b : Int), us, rfl, by go_num, by omega, C1, HO, HB⟩
              case measure => simp [intOf]; omega
          · obtain rfl : j = k := by omega
            have FI := Lib.hid (HI.out.fin E0.out)
            have kc3 : (j : Int) ≤ (s.size : Int) := by omega
            rcases HI.out.bd with rfl | ⟨b, rfl, hb⟩
            · have F2 := Lib.hid (FI.out.2 rfl)
              go_wp2
              go_ret
              exact ⟨_, rfl, by rw [F2.out]; exact HO.out, HB.out⟩
            · have F2 := Lib.hid (FI.out.1 b rfl)
              have b0 : (0 : Int) ≤ (b : Int) := by omega
              have b1 : (b : Int) ≤ (j : Int) := by omega
              go_wp2_with (at_builtin; refine wp_stA _ w.heap.size (s.extract b j) us rfl _ _ rfl _ rfl rfl HO.out lb HB.out.size ?_; intro v3 w3 o3 g3; have O3 := Lib.hid o3; have B3 := Lib.hid ((HB.out.alloc HB.out.size _).grown g3 (Nat.le_trans HB.out.size (by simp)) (fun k e => (World.ownsRow.lt HO.out k e).1)); clear o3 g3)
              go_ret
              exact ⟨_, rfl, by rw [F2.out]; exact O3.out, B3.out⟩
      · have E1 := Lib.hid (p := fy rmA s 0 = fy rmA s (k + 1)) (by rw [HE.out]; exact fy_go hlt (by rw [yl]; simp only [rmA, bne_iff_ne, ne_eq]; omega))
        clear yl
        go_wp2
        go_roundw
        case rel => exact ⟨k + 1, by go_num, by omega, E1⟩
        case measure => simp [intOf]; omega
    · have kc : ¬ (k : Int) < (s.size : Int) := by omega
      have E0 := Lib.hid (p := k = fy rmA s 0) (by rw [HE.out]; exact (fy_stop (fun q => absurd q.1 hlt)).symm)
      clear HE
      go_wp2
      go_loopw [3, 5, 6] (fun v t5 t6 W => ∃ (j : Nat) (f : Int) (us : List ByteArray), t5 = .int .i64 f ∧ t6 = .int .i64 (j : Int) ∧ j ≤ k ∧ RowKit.Hid (WdI s us f j) ∧ RowKit.Hid (OwQ W w.heap.size v us) ∧ RowKit.Hid (Below w.heap.size w W)) (fun _ _ t _ => k - (intOf t).toNat)
      case atStart => exact ⟨0, -1, [], rfl, rfl, Nat.zero_le _, ⟨⟨0, false, .inr ⟨rfl, rfl⟩, rfl⟩, Nat.le_refl _⟩, World.ownsRow_nil _ _ _ _, Below.refl _ _⟩
      case round =>
        rename World => W
        obtain ⟨j, f, us, rfl, rfl, hjk0, HI, HO, HB⟩ := hrel
        have lb : us.length ≤ 1073741824 := by have := HI.out.len; omega
        by_cases hjk : j < k
        · have hj : j < s.size := by omega
          have jc : (j : Int) < (k : Int) := by omega
          have jc2 : (j : Int) < (s.size : Int) := by omega
          have jc3 : (j : Int) ≤ (s.size : Int) := by omega
          have yl := yb_lt hj
          by_cases hc : s[j].toNat = 32
          · have bt : bkA (yb s j) = true := by rw [yl]; simp [bkA, hc]
            rcases HI.out.bd with rfl | ⟨b, rfl, hb⟩
            · have C1 := Lib.hid (HI.out.blank0 hj bt)
              clear yl bt
              go_wp2
              go_roundw
              case rel => exact ⟨j + 1, -1, us, rfl, by go_num, by omega, C1, HO, HB⟩
              case measure => simp [intOf]; omega
            · have C1 := Lib.hid (HI.out.blank1 hj bt)
              clear yl bt
              have b0 : (0 : Int) ≤ (b : Int) := by omega
              have b1 : (b : Int) ≤ (j : Int) := by omega
              go_wp2_with (at_builtin; refine wp_stA _ w.heap.size (s.extract b j) us rfl _ _ rfl _ rfl rfl HO.out lb HB.out.size ?_; intro v3 w3 o3 g3; have O3 := Lib.hid o3; have B3 := Lib.hid ((HB.out.alloc HB.out.size _).grown g3 (Nat.le_trans HB.out.size (by simp)) (fun k e => (World.ownsRow.lt HO.out k e).1)); clear o3 g3)
              go_roundw
              case rel => exact ⟨j + 1, -1, us ++ [s.extract b j], rfl, by go_num, by omega, C1, O3, B3⟩
              case measure => simp [intOf]; omega
          by_cases hc1 : s[j].toNat = 9
          · have bt : bkA (yb s j) = true := by rw [yl]; simp [bkA, hc1]
            rcases HI.out.bd with rfl | ⟨b, rfl, hb⟩
            · have C1 := Lib.hid (HI.out.blank0 hj bt)
              clear yl bt
              go_wp2
              go_roundw
              case rel => exact ⟨j + 1, -1, us, rfl, by go_num, by omega, C1, HO, HB⟩
              case measure => simp [intOf]; omega
            · have C1 := Lib.hid (HI.out.blank1 hj bt)
              clear yl bt
              have b0 : (0 : Int) ≤ (b : Int) := by omega
              have b1 : (b : Int) ≤ (j : Int) := by omega
              go_wp2_with (at_builtin; refine wp_stA _ w.heap.size (s.extract b j) us rfl _ _ rfl _ rfl rfl HO.out lb HB.out.size ?_; intro v3 w3 o3 g3; have O3 := Lib.hid o3; have B3 := Lib.hid ((HB.out.alloc HB.out.size _).grown g3 (Nat.le_trans HB.out.size (by simp)) (fun k e => (World.ownsRow.lt HO.out k e).1)); clear o3 g3)
              go_roundw
              case rel => exact ⟨j + 1, -1, us ++ [s.extract b j], rfl, by go_num, by omega, C1, O3, B3⟩
              case measure => simp [intOf]; omega
          by_cases hc2 : s[j].toNat = 13
          · have bt : bkA (yb s j) = true := by rw [yl]; simp [bkA, hc2]
            rcases HI.out.bd with rfl | ⟨b, rfl, hb⟩
            · have C1 := Lib.hid (HI.out.blank0 hj bt)
              clear yl bt
              go_wp2
              go_roundw
              case rel => exact ⟨j + 1, -1, us, rfl, by go_num, by omega, C1, HO, HB⟩
              case measure => simp [intOf]; omega
            · have C1 := Lib.hid (HI.out.blank1 hj bt)
              clear yl bt
              have b0 : (0 : Int) ≤ (b : Int) := by omega
              have b1 : (b : Int) ≤ (j : Int) := by omega
              go_wp2_with (at_builtin; refine wp_stA _ w.heap.size (s.extract b j) us rfl _ _ rfl _ rfl rfl HO.out lb HB.out.size ?_; intro v3 w3 o3 g3; have O3 := Lib.hid o3; have B3 := Lib.hid ((HB.out.alloc HB.out.size _).grown g3 (Nat.le_trans HB.out.size (by simp)) (fun k e => (World.ownsRow.lt HO.out k e).1)); clear o3 g3)
              go_roundw
              case rel => exact ⟨j + 1, -1, us ++ [s.extract b j], rfl, by go_num, by omega, C1, O3, B3⟩
              case measure => simp [intOf]; omega
          have bt : bkA (yb s j) = false := by rw [yl]; simp [bkA]; omega
          have q1 : ((s[j].toNat : Int) == 32) = false := by simp; omega
          have q2 : ((s[j].toNat : Int) == 9) = false := by simp; omega
          have q3 : ((s[j].toNat : Int) == 13) = false := by simp; omega
          have rt : yb s j ≠ 59 := by have := fy_before (p := rmA) (s := s) _ 0 rfl j (Nat.zero_le _) (by rw [← E0.out]; exact hjk); simpa [rmA] using this
          rcases HI.out.bd with rfl | ⟨b, rfl, hb⟩
          · have C1 := Lib.hid (HI.out.word0 hj bt rt)
            clear yl bt rt
            go_wp2
            go_roundw
            case rel => exact ⟨j + 1, (j : Int), us, rfl, by go_num, by omega, C1, HO, HB⟩
            case measure => simp [intOf]; omega
          · have C1 := Lib.hid (HI.out.word1 hj bt rt)
            clear yl bt rt
            have b0 : (0 : Int) ≤ (b : Int) := by omega
            have b2 : ¬ (b : Int) < 0 := by omega
            go_wp2
            go_roundw
            case rel => exact ⟨j + 1, (b : Int), us, rfl, by go_num, by omega, C1, HO, HB⟩
            case measure => simp [intOf]; omega
        · obtain rfl : j = k := by omega
          have FI := Lib.hid (HI.out.fin E0.out)
          have kc3 : (j : Int) ≤ (s.size : Int) := by omega
          rcases HI.out.bd with rfl | ⟨b, rfl, hb⟩
          · have F2 := Lib.hid (FI.out.2 rfl)
            go_wp2
            go_ret
            exact ⟨_, rfl, by rw [F2.out]; exact HO.out, HB.out⟩
          · have F2 := Lib.hid (FI.out.1 b rfl)
            have b0 : (0 : Int) ≤ (b : Int) := by omega
            have b1 : (b : Int) ≤ (j : Int) := by omega
            go_wp2_with (at_builtin; refine wp_stA _ w.heap.size (s.extract b j) us rfl _ _ rfl _ rfl rfl HO.out lb HB.out.size ?_; intro v3 w3 o3 g3; have O3 := Lib.hid o3; have B3 := Lib.hid ((HB.out.alloc HB.out.size _).grown g3 (Nat.le_trans HB.out.size (by simp)) (fun k e => (World.ownsRow.lt HO.out k e).1)); clear o3 g3)
            go_ret
            exact ⟨_, rfl, by rw [F2.out]; exact O3.out, B3.out⟩
end Go.Proofs.YtccjeipkljdhdaaGreatDoor

namespace Go.Proofs.YtccjeipkljdhdaaGreatDoor
open Go.RowKit
set_option linter.unusedVariables false
set_option linter.unusedSimpArgs false

end Go.Proofs.YtccjeipkljdhdaaGreatDoor

namespace Go.Proofs.YtccjeipkljdhdaaGreatDoor
open Go.RowKit
set_option linter.unusedVariables false
set_option linter.unusedSimpArgs false

end Go.Proofs.YtccjeipkljdhdaaGreatDoor

namespace Go.Proofs.YtccjeipkljdhdaaGreatDoor
open Go.RowKit
set_option linter.unusedVariables false
set_option linter.unusedSimpArgs false

theorem bytes_list {a b : ByteArray} (h : a.data.toList = b.data.toList) : a = b := ByteArray.ext (Array.toList_inj.1 h)
end Go.Proofs.YtccjeipkljdhdaaGreatDoor

namespace Go.Proofs.YtccjeipkljdhdaaGreatDoor
open Go.RowKit
set_option linter.unusedVariables false
set_option linter.unusedSimpArgs false

end Go.Proofs.YtccjeipkljdhdaaGreatDoor

namespace Go.Proofs.YtccjeipkljdhdaaGreatDoor
open Go.RowKit
set_option linter.unusedVariables false
set_option linter.unusedSimpArgs false

/-- The letters of a number, the lowest ahead. -/
def lwB (n : Nat) : List UInt8 := if h : n = 0 then [] else UInt8.ofNat (97 + n % 26) :: lwB (n / 26)
termination_by n
decreasing_by omega
theorem lwB_zero : lwB 0 = [] := by rw [lwB, dif_pos rfl]
theorem lwB_next {n : Nat} (h : 0 < n) : lwB n = UInt8.ofNat (97 + n % 26) :: lwB (n / 26) := by rw [lwB, dif_neg (by omega)]
theorem lwB_len (n : Nat) : (lwB n).length ≤ n := by
  induction n using Nat.strongRecOn with
  | _ n ih =>
    by_cases h : n = 0
    · subst h; rw [lwB_zero]; exact Nat.le_refl _
    · rw [lwB_next (by omega), List.length_cons]
      have := ih (n / 26) (by omega)
      omega
/-- word. -/
def wdB (m i : Nat) : ByteArray := ⟨([119] ++ lwB m ++ [95] ++ lwB (i + 1)).toArray⟩
theorem app_byte (l : List UInt8) (c : UInt8) : (⟨l.toArray⟩ : ByteArray) ++ ⟨#[c]⟩ = ⟨(l ++ [c]).toArray⟩ := by
  apply bytes_list
  rw [ByteArray.data_append]
  simp
theorem own_oneB (W : World) (c : UInt8) : (W.alloc (.cells #[.int .u8 (c.toNat : Int)] 5)).ownsRow W.heap.size 5 1 (.slice (some ⟨W.heap.size, 0, none⟩) 1 1) 1 (Lib.byteCells [c]) :=
  ⟨rfl, .inr ⟨W.heap.size, 1, #[.int .u8 (c.toNat : Int)], rfl, Nat.le_refl _, heapN W _, Nat.le_refl _, by unfold maxLen; omega, rfl, rfl⟩⟩
theorem conv_oneB (W : World) (n : Nat) : (convert 78 9 (.slice (some ⟨W.heap.size, 0, none⟩) 1 1)).run Tryz.prog (W.alloc (.cells #[.int .u8 (97 + (n : Int) % 26)] 5)) = .ok (.string ⟨#[UInt8.ofNat (97 + n % 26)]⟩) (W.alloc (.cells #[.int .u8 (97 + (n : Int) % 26)] 5)) := by
  have e : ((UInt8.ofNat (97 + n % 26)).toNat : Int) = 97 + (n : Int) % 26 := by
    rw [UInt8.toNat_ofNat']
    omega
  have o := own_oneB W (UInt8.ofNat (97 + n % 26))
  rw [e] at o
  obtain ⟨g, cap, h1, h2⟩ := conv_bytes13 o (by simp)
  exact h2
set_option maxRecDepth 100000 in
set_option maxHeartbeats 4000000 in
theorem word_any (m i : Nat) (hm : m ≤ 1000000000000000000) (hi : i ≤ 1000000000000000000) (w : World) :
    Calls Tryz.prog 32 #[.int .i64 (-(m : Int)), .int .i64 (i : Int)] w fun e w' => e = .returned (.string (wdB m i)) ∧ Below w.heap.size w w' := by
  have wn : IntKind.i64.wrap (-(-(m : Int))) = (m : Int) := by simp [IntKind.wrap, IntKind.bits, IntKind.signed]; omega
  have wn2 : IntKind.i64.wrap ((m : Int)) = (m : Int) := by simp [IntKind.wrap, IntKind.bits, IntKind.signed]; omega
  go_enter Tryz.func32, Tryz.ntmps32
  go_wp2
  go_loopw [5, 6] (fun t5 t6 W => ∃ (n : Nat) (l : List UInt8), n ≤ m ∧ t6 = .int .i64 (n : Int) ∧ t5 = .string ⟨l.toArray⟩ ∧ RowKit.Hid ([119] ++ lwB m = l ++ lwB n) ∧ RowKit.Hid (Below w.heap.size w W)) (fun _ t _ => (intOf t).toNat)
  case atStart => exact ⟨m, [119], Nat.le_refl _, rfl, rfl, rfl, Below.refl _ _⟩
  case round =>
    rename World => W
    obtain ⟨n, l, hn, rfl, rfl, HL, HB⟩ := hrel
    by_cases h0 : n = 0
    · subst h0
      have h95 := app_byte l 95
      have L1 := Lib.hid (p := l = [119] ++ lwB m) (by have := HL.out; rw [lwB_zero, List.append_nil] at this; exact this.symm)
      have ll : l.length ≤ 1000000000000000001 := by
        have := lwB_len m
        rw [L1.out]; simp; omega
      have wi : IntKind.i64.wrap ((i : Int) + 1) = ((i + 1 : Nat) : Int) := by simp [IntKind.wrap, IntKind.bits, IntKind.signed]; omega
      have cc : ¬ 9223372036854775807 < l.length + 1 := by omega
      go_wp2
      clear h95 ll cc
      go_loopw [5, 7] (fun t5 t7 W' => ∃ (n : Nat) (r : List UInt8), n ≤ i + 1 ∧ t7 = .int .i64 (n : Int) ∧ t5 = .string ⟨r.toArray⟩ ∧ RowKit.Hid ([119] ++ lwB m ++ [95] ++ lwB (i + 1) = r ++ lwB n) ∧ RowKit.Hid (Below w.heap.size w W')) (fun _ t _ => (intOf t).toNat)
      case atStart => exact ⟨i + 1, l ++ [95], Nat.le_refl _, rfl, rfl, Lib.hid (by rw [L1.out]), HB⟩
      case round =>
        clear HB
        rename World => W'
        obtain ⟨n, r, hn, rfl, rfl, HL2, HB⟩ := hrel
        by_cases h1 : n = 0
        · subst h1
          go_wp2
          go_ret
          refine ⟨?_, HB.out⟩
          have e := HL2.out
          rw [lwB_zero, List.append_nil] at e
          unfold wdB
          rw [e]
          rfl
        · have n0 : (0 : Int) < (n : Int) := by omega
          obtain ⟨c, hc⟩ : ∃ c : UInt8, UInt8.ofNat (97 + n % 26) = c := ⟨_, rfl⟩
          have CV := conv_oneB W' n
          rw [hc] at CV
          have la := app_byte r c
          have ll : r.length ≤ 2000000000000000010 := by
            have := congrArg List.length HL2.out
            have := lwB_len m
            have := lwB_len (i + 1)
            simp at *; omega
          have cc : ¬ 9223372036854775807 < r.length + 1 := by omega
          have HC := Lib.hid hc
          clear hc
          go_wp2
          go_roundw
          case rel => exact ⟨n / 26, r ++ [c], by omega, congrArg (Value.int .i64) (by omega), rfl, Lib.hid (by rw [HL2.out, lwB_next (by omega), HC.out]; simp), Lib.hid <| HB.out.alloc HB.out.size _⟩
          case measure => simp [intOf]; omega
    · have n0 : (0 : Int) < (n : Int) := by omega
      obtain ⟨c, hc⟩ : ∃ c : UInt8, UInt8.ofNat (97 + n % 26) = c := ⟨_, rfl⟩
      have CV := conv_oneB W n
      rw [hc] at CV
      have la := app_byte l c
      have ll : l.length ≤ 1000000000000000001 := by
        have := congrArg List.length HL.out
        have := lwB_len m
        simp at *; omega
      have cc : ¬ 9223372036854775807 < l.length + 1 := by omega
      have HC := Lib.hid hc
      clear hc
      go_wp2
      go_roundw
      case rel => exact ⟨n / 26, l ++ [c], by omega, congrArg (Value.int .i64) (by omega), rfl, Lib.hid (by rw [HL.out, lwB_next (by omega), HC.out]; simp), Lib.hid <| HB.out.alloc HB.out.size _⟩
      case measure => simp [intOf]; omega
end Go.Proofs.YtccjeipkljdhdaaGreatDoor
