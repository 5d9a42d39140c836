/-
  PLAIN: a printed flow is read back.
-/
import Derived.Test.YtmdgfcldohmjdaaDoorWRead4
import Derived.Test.YtmdgfcldohmjdaaDoorWPrint
namespace Go.Proofs.YtmdgfcldohmjdaaDoor
open Go.RowKit
set_option linter.unusedVariables false
set_option linter.unusedSimpArgs false

theorem size_list (s : ByteArray) : s.size = s.data.toList.length := by rw [Array.length_toList]; rfl
theorem at8_list {s : ByteArray} {pre l : List UInt8} (h : s.data.toList = pre ++ l) (i : Nat) (hi : i < l.length) : at8 s (pre.length + i) = ((l[i]).toNat : Int) := by
  have hz : s.size = (pre ++ l).length := by rw [← h]; exact size_list s
  have hlt : pre.length + i < s.size := by rw [hz, List.length_append]; omega
  rw [at8_lt hlt]
  have e : s[pre.length + i] = (s.data.toList)[pre.length + i]'(by rw [← size_list]; exact hlt) := by rw [Array.getElem_toList]; rfl
  rw [e]
  have : (s.data.toList)[pre.length + i]? = some (l[i]) := by rw [h, List.getElem?_append_right (by omega)]; simp [hi]
  rw [List.getElem?_eq_getElem (by rw [h, List.length_append]; omega)] at this
  injection this with this
  rw [this]
theorem dec_small {u : Nat} (h : u < 10) : (UInt8.ofNat (48 + u)).toNat = 48 + u := by
  rw [UInt8.toNat_ofNat']; omega
theorem dec_dig : ∀ (n u : Nat), u ≤ n → ∀ c ∈ Lib.decDigits u, 48 ≤ c.toNat ∧ c.toNat ≤ 57
  | 0, u, h, c, hc => by
    obtain rfl : u = 0 := by omega
    rw [Lib.decDigits, dif_pos (by omega)] at hc
    simp at hc; subst hc; decide
  | n + 1, u, h, c, hc => by
    rw [Lib.decDigits] at hc
    split at hc
    · rename_i hu
      simp only [List.mem_singleton] at hc; subst hc; rw [dec_small hu]; omega
    · rename_i hu
      rcases List.mem_append.1 hc with q | q
      · exact dec_dig n (u / 10) (by omega) c q
      · simp only [List.mem_singleton] at q; subst q; rw [dec_small (by omega)]; omega
theorem dec_pos (u : Nat) : 0 < (Lib.decDigits u).length := by rw [Lib.decDigits]; split <;> simp
theorem dec_first : ∀ (n u : Nat), u ≤ n → 1 ≤ u → ∀ c, (Lib.decDigits u)[0]? = some c → c.toNat ≠ 48
  | 0, u, h, h1, c, hc => by omega
  | n + 1, u, h, h1, c, hc => by
    rw [Lib.decDigits] at hc
    split at hc
    · rename_i hu
      have hc' : UInt8.ofNat (48 + u) = c := by rw [List.getElem?_cons_zero] at hc; injection hc
      subst hc'; rw [dec_small hu]; omega
    · rename_i hu
      rw [List.getElem?_append_left (dec_pos _)] at hc
      exact dec_first n (u / 10) (by omega) (by omega) c hc
theorem preD_dec (s : ByteArray) (fr lim : Nat) : ∀ (n u : Nat), u ≤ n → u ≤ lim → (∀ i c, (Lib.decDigits u)[i]? = some c → at8 s (fr + i) = (c.toNat : Int)) → preD s fr lim (Lib.decDigits u).length = some u
  | 0, u, h, hl, hc => by
    obtain rfl : u = 0 := by omega
    have e : Lib.decDigits 0 = [48] := by rw [Lib.decDigits, dif_pos (by omega)]; rfl
    rw [e] at hc ⊢
    have a := hc 0 48 rfl
    simp only [List.length_singleton]
    rw [preD_succ (n := 0) rfl, Nat.add_zero] at *
    rw [a]
    simp [stepD, isD, dg]
  | n + 1, u, h, hl, hc => by
    by_cases hu : u < 10
    · have e : Lib.decDigits u = [UInt8.ofNat (48 + u)] := Lib.decDigits_one hu
      rw [e] at hc ⊢
      have a := hc 0 _ rfl
      rw [dec_small hu] at a
      simp only [List.length_singleton]
      rw [preD_succ (n := 0) rfl]
      rw [a]
      unfold stepD
      have d : dg ((48 + u : Nat) : Int) = u := by unfold dg; omega
      rw [d, if_pos ⟨by unfold isD; omega, by omega⟩]
      simp
    · have e : Lib.decDigits u = Lib.decDigits (u / 10) ++ [UInt8.ofNat (48 + u % 10)] := by rw [Lib.decDigits, dif_neg hu]
      have ih := preD_dec s fr lim n (u / 10) (by omega) (by omega) (fun i c q => hc i c (by rw [e, List.getElem?_append_left (List.getElem?_eq_some_iff.1 q).1]; exact q))
      have a := hc (Lib.decDigits (u / 10)).length _ (by rw [e, List.getElem?_append_right (Nat.le_refl _), Nat.sub_self]; rfl)
      rw [dec_small (by omega)] at a
      rw [e, List.length_append, List.length_singleton, preD_succ ih, a]
      unfold stepD
      have d : dg ((48 + u % 10 : Nat) : Int) = u % 10 := by unfold dg; omega
      rw [d, if_pos ⟨by unfold isD; omega, by omega⟩]
      congr 1
      omega
/-- A number's digits, with no digit behind them. -/
theorem nd_dec {s : ByteArray} {at_ lim u : Nat} (hl : u ≤ lim) (hc : ∀ i c, (Lib.decDigits u)[i]? = some c → at8 s (at_ + i) = (c.toNat : Int)) (hn : ¬ isD (at8 s (at_ + (Lib.decDigits u).length))) : ND s at_ lim (at_ + (Lib.decDigits u).length) u true := by
  by_cases h0 : u = 0
  · subst h0
    have e : Lib.decDigits 0 = [48] := by rw [Lib.decDigits, dif_pos (by omega)]; rfl
    rw [e] at hc ⊢
    exact .inl ⟨by have := hc 0 48 rfl; simpa using this, rfl, rfl, rfl⟩
  · right
    have hp := preD_dec s at_ lim u u (Nat.le_refl _) hl hc
    refine ⟨?_, _, ⟨hp, ?_⟩, rfl, (decide_eq_true (dec_pos u)).symm⟩
    · obtain ⟨c, hc0⟩ : ∃ c, (Lib.decDigits u)[0]? = some c := ⟨_, List.getElem?_eq_getElem (dec_pos u)⟩
      have a := hc 0 c hc0
      have b := dec_first u u (Nat.le_refl _) (by omega) c hc0
      rw [Nat.add_zero] at a
      omega
    · rw [preD_succ hp]
      unfold stepD
      rw [if_neg (fun q => hn q.1)]
theorem valI_zero {f : Fl} (h : valI f = 0) : curB f.c = true ∧ 0 ≤ f.d ∧ f.d ≤ 1073741824 := by
  unfold valI at h
  split at h
  · cases h
  · rename_i h1
    split at h
    · cases h
    · rename_i h2; exact ⟨by simpa using h1, by omega, by omega⟩
theorem itoa_parts (a : Int) : Lib.itoa a = (if a < 0 then [45] else []) ++ Lib.decDigits a.natAbs := by
  unfold Lib.itoa
  split
  · rfl
  · rename_i h; rw [show a.toNat = a.natAbs by omega]; rfl
/-- A printed flow's line, read. -/
theorem line_back {s : ByteArray} {pre rest : List UInt8} {f : Fl} (hv : valI f = 0) (ha : -9223372036854775808 ≤ f.a ∧ f.a ≤ 9223372036854775807) (hs : s.data.toList = pre ++ (lineL f ++ rest)) : LineS s pre.length (pre.length + (lineL f).length) (some f) := by
  obtain ⟨hcur, d0, d1⟩ := valI_zero hv
  obtain ⟨c3, cap⟩ := cur_out hcur
  obtain ⟨fd, fc, fa⟩ := f
  simp only at *
  obtain ⟨D, rfl⟩ : ∃ D : Nat, fd = (D : Int) := ⟨fd.toNat, by omega⟩
  have eD : Lib.itoa (D : Int) = Lib.decDigits D := Lib.itoa_nonneg D
  have cl : fc.data.toList.length = 3 := by rw [← size_list]; exact c3
  have EL : lineL ⟨(D : Int), fc, fa⟩ = Lib.decDigits D ++ ([32] ++ (fc.data.toList ++ ([32] ++ (Lib.itoa fa ++ [10])))) := by unfold lineL; rw [eD]; simp
  generalize hdd : Lib.decDigits D = dd at *
  have ddp : 0 < dd.length := by rw [← hdd]; exact dec_pos D
  have all := fun i hi => at8_list hs i hi
  rw [EL] at hs all ⊢
  -- the bytes
  have A : ∀ i c, (dd ++ ([32] ++ (fc.data.toList ++ ([32] ++ (Lib.itoa fa ++ [10])))) ++ rest)[i]? = some c → at8 s (pre.length + i) = (c.toNat : Int) := fun i c q => by
    obtain ⟨hi, e⟩ := List.getElem?_eq_some_iff.1 q
    rw [all i hi, e]
  have A1 : at8 s (pre.length + dd.length) = 32 := A dd.length 32 (by simp)
  have n1 : ND s pre.length 1073741824 (pre.length + dd.length) D true := by
    have := nd_dec (s := s) (at_ := pre.length) (lim := 1073741824) (u := D) (by omega) (fun i c q => by rw [hdd] at q; exact A i c (by rw [List.append_assoc, List.getElem?_append_left (List.getElem?_eq_some_iff.1 q).1]; exact q)) (by rw [hdd, A1]; decide)
    rwa [hdd] at this
  have AC : ∀ i, i < 3 → at8 s (pre.length + dd.length + 1 + i) = at8 fc i := fun i hi => by
    have hi' : i < fc.data.toList.length := by omega
    have q : (dd ++ ([32] ++ (fc.data.toList ++ ([32] ++ (Lib.itoa fa ++ [10])))) ++ rest)[dd.length + 1 + i]? = some (fc.data.toList[i]) := by
      rw [List.append_assoc, List.getElem?_append_right (by omega), show dd.length + 1 + i - dd.length = i + 1 by omega]
      simp [List.getElem?_append, cl, hi]
    have := A _ _ q
    rw [show pre.length + (dd.length + 1 + i) = pre.length + dd.length + 1 + i by omega] at this
    rw [this, at8_lt (by omega)]
    simp [ByteArray.getElem_eq_getElem_data]
  have A2 : at8 s (pre.length + dd.length + 1 + 3) = 32 := by
    have := A (dd.length + 4) 32 (by rw [List.append_assoc, List.getElem?_append_right (by omega), show dd.length + 4 - dd.length = 4 by omega]; simp [List.getElem?_append, cl])
    rwa [show pre.length + (dd.length + 4) = pre.length + dd.length + 1 + 3 by omega] at this
  have n2 : CurS s (pre.length + dd.length + 1) (pre.length + dd.length + 1 + 3) true := ⟨3, Nat.le_refl _, rfl, fun i hi => by rw [AC i hi]; exact cap i hi, .inl ⟨rfl, rfl⟩⟩
  obtain ⟨K, hK⟩ : ∃ K, pre.length + dd.length + 1 + 3 + 1 = K := ⟨_, rfl⟩
  have AA : ∀ i c, (Lib.itoa fa)[i]? = some c → at8 s (K + i) = (c.toNat : Int) := fun i c q => by
    have hi := (List.getElem?_eq_some_iff.1 q).1
    have := A (dd.length + 5 + i) c (by
      rw [List.append_assoc, List.getElem?_append_right (by omega), show dd.length + 5 + i - dd.length = i + 5 by omega]
      simp [List.getElem?_append, cl, hi]
      rw [List.getElem?_eq_getElem hi] at q; injection q)
    rwa [show pre.length + (dd.length + 5 + i) = K + i by omega] at this
  have A3 : at8 s (K + (Lib.itoa fa).length) = 10 := by
    have := A (dd.length + 5 + (Lib.itoa fa).length) 10 (by
      rw [List.append_assoc, List.getElem?_append_right (by omega), show dd.length + 5 + (Lib.itoa fa).length - dd.length = (Lib.itoa fa).length + 5 by omega]
      simp [List.getElem?_append, cl])
    rwa [show pre.length + (dd.length + 5 + (Lib.itoa fa).length) = K + (Lib.itoa fa).length by omega] at this
  have n3 : SN s K (K + (Lib.itoa fa).length) fa true := by
    rw [itoa_parts] at AA A3 ⊢
    by_cases hneg : fa < 0
    · rw [if_pos hneg] at AA A3 ⊢
      have a0 := AA 0 45 rfl
      rw [Nat.add_zero] at a0
      have ad : ∀ i c, (Lib.decDigits fa.natAbs)[i]? = some c → at8 s (K + 1 + i) = (c.toNat : Int) := fun i c q => by
        have := AA (i + 1) c (by simpa using q)
        rwa [show K + (i + 1) = K + 1 + i by omega] at this
      have e3 : K + ([45] ++ Lib.decDigits fa.natAbs).length = K + 1 + (Lib.decDigits fa.natAbs).length := by simp; omega
      rw [e3] at A3 ⊢
      refine .inr (.inr ⟨a0, ?_, fa.natAbs, nd_dec (by omega) ad (by rw [A3]; decide), by omega⟩)
      obtain ⟨c, hc0⟩ : ∃ c, (Lib.decDigits fa.natAbs)[0]? = some c := ⟨_, List.getElem?_eq_getElem (dec_pos _)⟩
      have b := dec_first fa.natAbs fa.natAbs (Nat.le_refl _) (by omega) c hc0
      have a1 := ad 0 c hc0
      rw [Nat.add_zero] at a1
      omega
    · rw [if_neg hneg] at AA A3 ⊢
      simp only [List.nil_append] at AA A3 ⊢
      refine .inl ⟨?_, fa.natAbs, nd_dec (by omega) AA (by rw [A3]; decide), by omega⟩
      obtain ⟨c, hc0⟩ : ∃ c, (Lib.decDigits fa.natAbs)[0]? = some c := ⟨_, List.getElem?_eq_getElem (dec_pos _)⟩
      have b := dec_dig fa.natAbs fa.natAbs (Nat.le_refl _) c (List.mem_of_getElem? hc0)
      have a1 := AA 0 c hc0
      rw [Nat.add_zero] at a1
      omega
  have ex : s.extract (pre.length + dd.length + 1) (pre.length + dd.length + 4) = fc := by
    have e : (s.extract (pre.length + dd.length + 1) (pre.length + dd.length + 4)).data.toList = fc.data.toList := by
      rw [ByteArray.data_extract, Array.toList_extract, List.extract_eq_take_drop, show pre.length + dd.length + 4 - (pre.length + dd.length + 1) = 3 by omega]
      have hs' : s.data.toList = (pre ++ dd ++ [32]) ++ (fc.data.toList ++ ([32] ++ (Lib.itoa fa ++ [10]) ++ rest)) := by rw [hs]; simp only [List.append_assoc]
      rw [hs', show pre.length + dd.length + 1 = (pre ++ dd ++ [32]).length by simp; omega, List.drop_left, ← cl, List.take_left]
    obtain ⟨⟨x⟩⟩ := fc
    generalize s.extract (pre.length + dd.length + 1) (pre.length + dd.length + 4) = y at *
    obtain ⟨⟨y⟩⟩ := y
    simp at e
    rw [e]
  refine ⟨pre.length + dd.length, D, true, n1, .inr ⟨rfl, A1, _, true, n2, .inr ⟨rfl, A2, K + (Lib.itoa fa).length, fa, true, by rw [hK]; exact n3, .inr ⟨rfl, A3, ?_, ?_⟩⟩⟩⟩
  · simp [cl]; omega
  · rw [ex]
/-- Printed flows, read. -/
theorem run_back {s : ByteArray} : ∀ (gs done : List Fl) (pre : List UInt8), (∀ f ∈ gs, valI f = 0 ∧ -9223372036854775808 ≤ f.a ∧ f.a ≤ 9223372036854775807) → s.data.toList = pre ++ textL gs → Run s pre.length done (done ++ gs) 0 0
  | [], done, pre, _, h => by
    rw [List.append_nil]
    refine .stop ?_
    have := size_list s
    rw [this, h]; simp [textL]
  | f :: gs, done, pre, hf, h => by
    have e : textL (f :: gs) = lineL f ++ textL gs := rfl
    rw [e] at h
    have hz := size_list s
    have lp : 0 < (lineL f).length := by unfold lineL; simp; omega
    refine .step (by rw [hz, h]; simp; omega) (line_back (hf f List.mem_cons_self).1 (hf f List.mem_cons_self).2 h) ?_
    have ih := run_back (s := s) gs (done ++ [f]) (pre ++ lineL f) (fun g hg => hf g (List.mem_cons_of_mem _ hg)) (by rw [h, List.append_assoc])
    rw [List.length_append] at ih
    rwa [List.append_assoc] at ih
end Go.Proofs.YtmdgfcldohmjdaaDoor
