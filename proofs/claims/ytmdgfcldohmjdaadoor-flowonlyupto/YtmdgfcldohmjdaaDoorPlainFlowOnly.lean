/-
  PLAIN: what is read is written back; a reading hangs on the bytes up to its place.
-/
import Derived.Test.YtmdgfcldohmjdaaDoorPlainFlowBack
namespace Go.Proofs.YtmdgfcldohmjdaaDoor
open Go.RowKit
set_option linter.unusedVariables false
set_option linter.unusedSimpArgs false

/-- The bytes from a place up to another. -/
def seg (s : ByteArray) (a b : Nat) : List UInt8 := (s.data.toList.take b).drop a
theorem seg_join {s : ByteArray} {a b c : Nat} (h1 : a ≤ b) (h2 : b ≤ c) (h3 : c ≤ s.size) : seg s a c = seg s a b ++ seg s b c := by
  unfold seg
  have e : s.data.toList.take c = s.data.toList.take b ++ (s.data.toList.take c).drop b := by
    have := List.take_append_drop b (s.data.toList.take c)
    rw [List.take_take, Nat.min_eq_left h2] at this
    exact this.symm
  conv => lhs; rw [e]
  rw [List.drop_append_of_le_length (by rw [List.length_take, ← size_list]; omega)]
theorem seg_nil (s : ByteArray) (a : Nat) : seg s a a = [] := by
  unfold seg
  rw [List.drop_eq_nil_iff, List.length_take]; omega
theorem seg_len {s : ByteArray} {a b : Nat} (h : b ≤ s.size) : (seg s a b).length = b - a := by
  unfold seg
  rw [List.length_drop, List.length_take, ← size_list]; omega
theorem at8_pos {s : ByteArray} {i : Nat} (h : at8 s i ≠ 0) : i < s.size := Classical.byContradiction fun q => h (at8_end q)
theorem seg_one {s : ByteArray} {i v : Nat} (h : at8 s i = (v : Int)) (hv : v ≠ 0) (hv2 : v < 256) : i < s.size ∧ seg s i (i + 1) = [UInt8.ofNat v] := by
  have hi : i < s.size := at8_pos (by rw [h]; omega)
  refine ⟨hi, ?_⟩
  have hl : i < s.data.toList.length := by rw [← size_list]; exact hi
  have e : seg s i (i + 1) = [s.data.toList[i]] := by
    unfold seg
    rw [List.take_add_one, List.getElem?_eq_getElem hl, List.drop_append_of_le_length (by rw [List.length_take]; omega), List.drop_eq_nil_iff.2 (by rw [List.length_take]; omega)]
    rfl
  rw [e]
  have b : s[i].toNat = v := by rw [at8_lt hi] at h; omega
  have : s.data.toList[i] = s[i] := by rw [Array.getElem_toList]; rfl
  rw [this]
  congr 1
  apply UInt8.toNat_inj.1
  rw [b, UInt8.toNat_ofNat']; omega
theorem seg_snoc {s : ByteArray} {a i v : Nat} (ha : a ≤ i) (h : at8 s i = (v : Int)) (hv : v ≠ 0) (hv2 : v < 256) : i < s.size ∧ seg s a (i + 1) = seg s a i ++ [UInt8.ofNat v] := by
  obtain ⟨h1, h2⟩ := seg_one h hv hv2
  exact ⟨h1, by rw [seg_join ha (Nat.le_succ _) h1, h2]⟩
theorem dec_next {n d : Nat} (hn : 1 ≤ n) (hd : d ≤ 9) : Lib.decDigits (10 * n + d) = Lib.decDigits n ++ [UInt8.ofNat (48 + d)] := by
  rw [Lib.decDigits, dif_neg (by omega), show (10 * n + d) / 10 = n by omega, show (10 * n + d) % 10 = d by omega]
theorem preD_fwd {s : ByteArray} {fr lim : Nat} (h9 : 9 ≤ lim) (h48 : at8 s fr ≠ 48) : ∀ (j n : Nat), preD s fr lim (j + 1) = some n → 1 ≤ n ∧ fr + j < s.size ∧ seg s fr (fr + j + 1) = Lib.decDigits n
  | 0, n, h => by
    rw [preD_succ (n := 0) rfl, Nat.add_zero] at h
    obtain ⟨_, hd, e⟩ := step_le h9 h
    have db := dg_bd hd
    have hb : at8 s fr = ((48 + n : Nat) : Int) := by omega
    obtain ⟨q1, q2⟩ := seg_one hb (by omega) (by omega)
    have n1 : n ≠ 0 := by intro q; subst q; exact h48 (by omega)
    refine ⟨by omega, q1, ?_⟩
    rw [Nat.add_zero, q2, Lib.decDigits_one (by omega)]
  | j + 1, n, h => by
    cases hp : preD s fr lim (j + 1) with
    | none => rw [preD, hp] at h; cases h
    | some m =>
      obtain ⟨i1, i2, i3⟩ := preD_fwd h9 h48 j m hp
      rw [preD_succ hp] at h
      obtain ⟨_, hd, e⟩ := step_le h9 h
      have db := dg_bd hd
      have hb : at8 s (fr + (j + 1)) = ((48 + dg (at8 s (fr + (j + 1))) : Nat) : Int) := by omega
      obtain ⟨q1, q2⟩ := seg_snoc (a := fr) (i := fr + (j + 1)) (by omega) hb (by omega) (by omega)
      refine ⟨by omega, q1, ?_⟩
      rw [q2, show fr + (j + 1) = fr + j + 1 by omega, i3, e, dec_next i1 db.1]
      rfl
theorem nd_fwd {s : ByteArray} {at_ lim k n : Nat} (h9 : 9 ≤ lim) (h : ND s at_ lim k n true) : n ≤ lim ∧ at_ < k ∧ k ≤ s.size ∧ seg s at_ k = Lib.decDigits n := by
  rcases h with ⟨h1, rfl, rfl, _⟩ | ⟨h1, j, h2, rfl, h3⟩
  · obtain ⟨q1, q2⟩ := seg_one (v := 48) h1 (by omega) (by omega)
    exact ⟨by omega, by omega, q1, by rw [q2, Lib.decDigits_one (by omega)]⟩
  · have hj : 0 < j := of_decide_eq_true h3.symm
    obtain ⟨i, rfl⟩ : ∃ i, j = i + 1 := ⟨j - 1, by omega⟩
    obtain ⟨a, b, c⟩ := preD_fwd h9 h1 i n h2.1
    exact ⟨preD_le h9 h2.1, by omega, by omega, c⟩
theorem at8_ext {s : ByteArray} {a b i : Nat} (h : a + i < b) (hb : b ≤ s.size) : at8 (s.extract a b) i = at8 s (a + i) := by
  have l1 : i < (s.extract a b).size := by rw [ByteArray.size_extract]; omega
  have l2 : a + i < s.size := by omega
  rw [at8_lt l1, at8_lt l2, ByteArray.getElem_extract]
theorem line_fwd {s : ByteArray} {at_ k : Nat} {f : Fl} (h : LineS s at_ k (some f)) : valI f = 0 ∧ (-9223372036854775808 ≤ f.a ∧ f.a ≤ 9223372036854775807) ∧ at_ < k ∧ k ≤ s.size ∧ seg s at_ k = lineL f := by
  obtain ⟨k1, d, wh1, n1, h⟩ := h
  rcases h with ⟨_, _, c⟩ | ⟨rfl, s1, k2, wh2, n2, h⟩
  · cases c
  rcases h with ⟨_, _, c⟩ | ⟨rfl, s2, k3, m, wh3, n3, h⟩
  · cases c
  rcases h with ⟨_, _, c⟩ | ⟨rfl, s3, rfl, c⟩
  · cases c
  injection c with c
  subst c
  obtain ⟨d1, d2, d3, d4⟩ := nd_fwd (by omega) n1
  obtain ⟨j, j1, j2, j3, j4⟩ := n2
  obtain ⟨_, rfl⟩ : true = true ∧ j = 3 := by
    rcases j4 with q | ⟨q, _⟩
    · exact ⟨rfl, q.2⟩
    · cases q
  subst j2
  obtain ⟨p1, p2⟩ := seg_one (v := 32) s1 (by omega) (by omega)
  obtain ⟨p3, p4⟩ := seg_one (v := 32) s2 (by omega) (by omega)
  obtain ⟨p5, p6⟩ := seg_one (v := 10) s3 (by omega) (by omega)
  have A : (-9223372036854775808 ≤ m ∧ m ≤ 9223372036854775807) ∧ k1 + 1 + 3 + 1 < k3 ∧ k3 ≤ s.size ∧ seg s (k1 + 1 + 3 + 1) k3 = Lib.itoa m := by
    rcases n3 with ⟨a, n, b, e⟩ | ⟨_, _, _, e, _⟩ | ⟨a, a1, n, b, e⟩
    · obtain ⟨e1, e2, e3, e4⟩ := nd_fwd (by omega) b
      subst e
      exact ⟨by omega, e2, e3, by rw [e4, Lib.itoa_nonneg]⟩
    · cases e
    · obtain ⟨e1, e2, e3, e4⟩ := nd_fwd (by omega) b
      subst e
      obtain ⟨q1, q2⟩ := seg_one (v := 45) a (by omega) (by omega)
      have n1 : 1 ≤ n := by
        rcases b with ⟨b, _⟩ | ⟨_, j', b, _, c⟩
        · exact absurd b a1
        · have hj : 0 < j' := of_decide_eq_true c.symm
          obtain ⟨i, rfl⟩ : ∃ i, j' = i + 1 := ⟨j' - 1, by omega⟩
          exact (preD_fwd (by omega) a1 i n b.1).1
      refine ⟨by omega, by omega, e3, ?_⟩
      rw [seg_join (b := k1 + 1 + 3 + 1 + 1) (by omega) (by omega) e3, q2, e4, Lib.itoa_neg n n1]
      rfl
  obtain ⟨A1, A2, A3, A4⟩ := A
  have ec : (s.extract (k1 + 1) (k1 + 4)).data.toList = seg s (k1 + 1) (k1 + 4) := by
    rw [ByteArray.data_extract, Array.toList_extract, List.extract_eq_take_drop]
    unfold seg
    rw [List.drop_take]
  have es : (s.extract (k1 + 1) (k1 + 4)).size = 3 := by rw [size_list, ec, seg_len (by omega)]; omega
  have ecap : curB (s.extract (k1 + 1) (k1 + 4)) = true := cur_true es (fun i hi => by
    rw [at8_ext (by omega) (by omega)]
    exact j3 i hi)
  refine ⟨?_, A1, by omega, by omega, ?_⟩
  · exact of_decide_eq_true (by
      unfold valI
      simp only
      rw [if_neg (by rw [ecap]; simp), if_neg (by omega)]
      rfl)
  · unfold lineL
    simp only
    rw [seg_join (b := k1) (by omega) (by omega) (by omega), d4, seg_join (a := k1) (b := k1 + 1) (by omega) (by omega) (by omega), p2, seg_join (a := k1 + 1) (b := k1 + 1 + 3) (by omega) (by omega) (by omega), seg_join (a := k1 + 1 + 3) (b := k1 + 1 + 3 + 1) (by omega) (by omega) (by omega), p4, seg_join (a := k1 + 1 + 3 + 1) (b := k3) (by omega) (by omega) (by omega), A4, p6, ec, Lib.itoa_nonneg]
    simp
/-- What is read without an error is what was written. -/
theorem run_fwd {s : ByteArray} {at_ p : Nat} {fs gs : List Fl} {e : Int} (h : Run s at_ fs gs p e) : at_ ≤ s.size → (e = 0 → p = 0 ∧ ∃ rs, gs = fs ++ rs ∧ textL rs = seg s at_ s.size ∧ ∀ f ∈ rs, valI f = 0 ∧ -9223372036854775808 ≤ f.a ∧ f.a ≤ 9223372036854775807) ∧ (e ≠ 0 → gs = [] ∧ e = 31 ∧ at_ ≤ p) := by
  induction h with
  | @stop at_ fs h =>
    intro ha
    refine ⟨fun _ => ⟨rfl, [], by simp, ?_, by simp⟩, fun q => absurd rfl q⟩
    obtain rfl : at_ = s.size := by omega
    rw [seg_nil]; rfl
  | @bad at_ k fs h l =>
    intro ha
    refine ⟨fun q => (by cases q), fun _ => ⟨rfl, rfl, ?_⟩⟩
    obtain ⟨k1, d, wh1, n1, h⟩ := l
    have a1 := nd_le n1
    rcases h with ⟨_, c, _⟩ | ⟨_, _, k2, wh2, n2, h⟩
    · omega
    obtain ⟨j, _, a2, _⟩ := n2
    rcases h with ⟨_, c, _⟩ | ⟨_, _, k3, m, wh3, n3, h⟩
    · omega
    have a3 : k2 + 1 ≤ k3 := by
      rcases n3 with ⟨_, n, b, _⟩ | ⟨_, _, b, _⟩ | ⟨_, _, n, b, _⟩
      · exact nd_le b
      · omega
      · have := nd_le b; omega
    rcases h with ⟨_, c, _⟩ | ⟨_, _, _, c⟩
    · omega
    · cases c
  | @step at_ k p fs gs f e h l r ih =>
    intro ha
    obtain ⟨l1, l2, l3, l4, l5⟩ := line_fwd l
    obtain ⟨i1, i2⟩ := ih l4
    refine ⟨fun q => ?_, fun q => ?_⟩
    · obtain ⟨q1, rs, q2, q3, q4⟩ := i1 q
      refine ⟨q1, f :: rs, by rw [q2, List.append_assoc]; rfl, ?_, ?_⟩
      · have e : textL (f :: rs) = lineL f ++ textL rs := rfl
        rw [e, q3, ← l5, ← seg_join (by omega) l4 (Nat.le_refl _)]
      · intro g hg
        rcases List.mem_cons.1 hg with rfl | hg
        · exact ⟨l1, l2⟩
        · exact q4 g hg
    · obtain ⟨q1, q2, q3⟩ := i2 q
      exact ⟨q1, q2, by omega⟩
end Go.Proofs.YtmdgfcldohmjdaaDoor
