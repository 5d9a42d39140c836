/-
  WALK: Print (the document's).
-/
import Derived.Test.YtmbnbediedpgmaaDoorWLineDoc
namespace Go.Proofs.YtmbnbediedpgmaaDoor
open Go.RowKit
set_option linter.unusedVariables false
set_option linter.unusedSimpArgs false

theorem own_keep {w w' : World} {B e s n : Nat} {v : Value} {xs : List Value} (h : w.ownsRow B e s v n xs) (hb : Below w.heap.size w w') : w'.ownsRow B e s v n xs := by
  obtain ⟨h1, h2⟩ := h
  refine ⟨h1, ?_⟩
  rcases h2 with h2 | ⟨g, cap, cur, rfl, hB, hg, r⟩
  · exact .inl h2
  · exact .inr ⟨g, cap, cur, rfl, hB, (hb.block g (Array.getElem?_eq_some_iff.1 hg).1).trans hg, r⟩
theorem ba_size (l : List UInt8) : (⟨l.toArray⟩ : ByteArray).size = l.length := by simp [ByteArray.size]
theorem own_line2 {w : World} {B : Nat} {v : Value} {bs ls : List UInt8} (h : w.ownsRow B 5 1 v (bs.length + (⟨ls.toArray⟩ : ByteArray).size) (Lib.byteCells bs ++ Lib.strCells ⟨ls.toArray⟩)) : w.ownsRow B 5 1 v (bs ++ ls).length (Lib.byteCells (bs ++ ls)) := by
  rw [ba_size] at h
  rw [List.length_append]
  have e : Lib.byteCells (bs ++ ls) = Lib.byteCells bs ++ Lib.strCells ⟨ls.toArray⟩ := by simp [Lib.byteCells, Lib.strCells]
  rw [e]; exact h
theorem lineL_len (d a : Int) (c : ByteArray) (hc : c.size = 3) (hd : (Lit.int .i64 d).wf = true) (ha : (Lit.int .i64 a).wf = true) : (lineL ⟨d, c, a⟩).length ≤ 60 := by
  have d0 : -9223372036854775808 ≤ d ∧ d ≤ 9223372036854775807 := by simpa [Lit.wf, IntKind.min, IntKind.max, IntKind.bits, IntKind.signed] using hd
  have a0 : -9223372036854775808 ≤ a ∧ a ≤ 9223372036854775807 := by simpa [Lit.wf, IntKind.min, IntKind.max, IntKind.bits, IntKind.signed] using ha
  have ld := Lib.itoa_length_le d d0.1 d0.2
  have la := Lib.itoa_length_le a a0.1 a0.2
  have : c.data.toList.length = c.size := Array.length_toList
  simp only [lineL, List.length_append, List.length_cons, List.length_nil, this]; omega

set_option maxRecDepth 100000 in
set_option maxHeartbeats 4000000 in
theorem rPrint_any (a : Option Addr) (n cap : Nat) (fs : List Fl) (w : World) (h : FL w a n fs) (hw : ∀ f ∈ fs, f.wf) :
    Calls Tryd.prog 6 #[.slice a n cap] w fun e w' => PrE fs e ∧ Below w.heap.size w w' := by
  have hl := h.1
  have hn := h.2.1
  have HF := Lib.hid h
  have WF := Lib.hid (p := ∀ i, i < n → (fs.getD i default).wf) (fun i hi => hw _ (by simp [List.getD, show i < fs.length by omega]))
  have HA := Lib.hid (p := 0 < n → ∃ b o, a = some ⟨b, o, none⟩ ∧ b < w.heap.size ∧ ∀ i, i < n → FC w b (o + i * 3) (fs.getD i default)) (fun h0 => by
    rcases h.2.2 with h3 | h3
    · omega
    · exact h3)
  obtain ⟨i0, hi, hz0, hz1, hz2⟩ := info_parts info8
  clear h hw
  go_enter Tryd.func6, Tryd.ntmps6
  go_wp2
  go_loopw [5] (fun t wr => ∃ k : Nat, k ≤ n ∧ t = .int .i64 k ∧ Below w.heap.size w wr ∧ RowKit.Hid (∀ i, i < k → valI (fs.getD i default) = 0)) (fun t _ => n - (intOf t).toNat)
  case atStart => exact ⟨0, by omega, rfl, Below.refl _ _, fun i hi => absurd hi (by omega)⟩
  case round =>
    obtain ⟨k, hk, rfl, hB, HZ⟩ := hrel
    have BB := Lib.hid hB
    by_cases hlt : k < n
    · obtain ⟨b, o, rfl, hb, hc⟩ := HA.out (by omega)
      obtain ⟨c0, c1, c2⟩ := (hc k hlt).later hB hb
      have kc : (k : Int) < (n : Int) := by omega
      have WK := Lib.hid (WF.out k hlt)
      obtain ⟨f, hf⟩ : ∃ f, fs.getD k default = f := ⟨_, rfl⟩
      have NXT := Lib.hid (p := valI f = 0 → ∀ i, i < k + 1 → valI (fs.getD i default) = 0) (fun g i hi => by
        rcases (show i < k ∨ i = k by omega) with q | q
        · exact HZ.out i q
        · rw [q, hf]; exact g)
      have BAD := Lib.hid (p := valI f ≠ 0 → badI fs = valI f) (fun g => by rw [← hf] at g ⊢; exact bad_at fs k (by omega) HZ.out g)
      rw [hf] at c0 c1 c2 WK
      obtain ⟨fd, fc, fa⟩ := f
      simp only at c0 c1 c2
      have KV := Lib.hid (fun W => rValid_any fd fa fc W WK.out.2.1)
      generalize hv : valI ⟨fd, fc, fa⟩ = V at *
      clear hB hc hf
      by_cases v0 : V = 0
      · subst v0
        go_wp2_with (go_at_call 10; refine (KV.out _).mono ?_; rintro e w1 ⟨rfl, h1⟩; have B1 := Lib.hid (BB.out.trans (h1.mono BB.out.size)); clear h1)
        go_roundw
        case rel => exact ⟨k + 1, by omega, by go_num, B1.out, by first | exact NXT.out rfl | exact NXT.out trivial⟩
        case measure => simp [intOf]; omega
      · have vb : (V == 0) = false := by simpa using v0
        go_wp2_with (go_at_call 10; refine (KV.out _).mono ?_; rintro e w1 ⟨rfl, h1⟩; have B1 := Lib.hid (BB.out.trans (h1.mono BB.out.size)); clear h1)
        go_ret2
        exact ⟨⟨[], V, rfl, .inl ⟨by rw [BAD.out v0]; exact v0, rfl, (BAD.out v0).symm⟩⟩, B1.out⟩
    · obtain rfl : k = n := by omega
      have B0 := Lib.hid (p := badI fs = 0) (bad_none fs (fun i hi => HZ.out i (by omega)))
      clear hB
      go_wp2
      go_loopw [4, 7] (fun v t wr => ∃ j : Nat, j ≤ k ∧ t = .int .i64 j ∧ Below w.heap.size w wr ∧ wr.ownsRow w.heap.size 5 1 v (textL (fs.take j)).length (Lib.byteCells (textL (fs.take j))) ∧ (textL (fs.take j)).length ≤ 1048576) (fun _ t _ => k - (intOf t).toNat)
      case atStart => exact ⟨0, by omega, rfl, BB.out, ⟨rfl, .inl ⟨rfl, rfl⟩⟩, by simp [textL]⟩
      case round =>
        rename World => wi
        obtain ⟨j, hj, rfl, hC, hO, hT⟩ := hrel
        have CC := Lib.hid hC
        have OO := Lib.hid hO
        by_cases hlt : j < k
        · obtain ⟨b, o, rfl, hb, hc⟩ := HA.out (by omega)
          obtain ⟨c0, c1, c2⟩ := (hc j hlt).later hC hb
          have kc : (j : Int) < (k : Int) := by omega
          have WK := Lib.hid (WF.out j hlt)
          have VZ := HZ.out j hlt
          have TT := Lib.hid (text_take (fs := fs) (k := j) (by omega))
          have TL := Lib.hid (text_le fs (j + 1))
          obtain ⟨f, hf⟩ : ∃ f, fs.getD j default = f := ⟨_, rfl⟩
          rw [hf] at c0 c1 c2 WK VZ TT
          obtain ⟨fd, fc, fa⟩ := f
          have SZ := val_cur VZ
          simp only at c0 c1 c2 SZ
          have KA := Lib.hid (fun W => line_doc fd fa fc W SZ WK.out.1 WK.out.2.2)
          have LS := Lib.hid (lineL_len fd fa fc SZ WK.out.1 WK.out.2.2)
          generalize textL (fs.take j) = bs at *
          clear hC hc hf VZ hO
          by_cases ov : 1048576 < (bs ++ lineL ⟨fd, fc, fa⟩).length
          · have ov2 : (1048576 : Int) < (bs.length : Int) + ((lineL ⟨fd, fc, fa⟩).length : Int) := by rw [List.length_append] at ov; omega
            have LONG := Lib.hid (p := PrS fs [] 6) (.inr (.inl ⟨B0.out, Nat.lt_of_lt_of_le ov (by rw [← TT.out]; exact TL.out), rfl, rfl⟩))
            clear ov
            go_wp2_with (first
              | (go_at_call 11; refine (KA.out _).mono ?_; rintro e w0 ⟨rfl, h1⟩; have C1 := Lib.hid (CC.out.trans (h1.mono CC.out.size)); have O0 := Lib.hid (own_keep OO.out h1); clear h1)
              | (at_builtin; refine Lib.wpList_append_own_string _ rfl _ _ 32 9 rfl w.heap.size 5 i0 Tryd.underlying32 Tryd.underlying9 hi hz0 hz1 hz2 _ _ _ rfl O0.out _ rfl (by unfold maxLen; simp only [ba_size]; have := LS.out; omega) (by simp only [ba_size]; have := LS.out; omega) C1.out.size ?_; intro v1 w1 h1 h2 _; have B1 := Lib.hid (C1.out.grown h2 C1.out.size (fun k e => (O0.out.lt k e).1)); have O1 := Lib.hid (own_line2 h1); obtain ⟨g1, cap1, rfl⟩ := own_lineF O1.out; clear h1 h2))
            go_ret2
            exact ⟨⟨[], 6, rfl, LONG.out⟩, B1.out⟩
          · have ov2 : ¬ (1048576 : Int) < (bs.length : Int) + ((lineL ⟨fd, fc, fa⟩).length : Int) := by rw [List.length_append] at ov; omega
            have OV := Lib.hid ov
            clear ov
            go_wp2_with (first
              | (go_at_call 11; refine (KA.out _).mono ?_; rintro e w0 ⟨rfl, h1⟩; have C1 := Lib.hid (CC.out.trans (h1.mono CC.out.size)); have O0 := Lib.hid (own_keep OO.out h1); clear h1)
              | (at_builtin; refine Lib.wpList_append_own_string _ rfl _ _ 32 9 rfl w.heap.size 5 i0 Tryd.underlying32 Tryd.underlying9 hi hz0 hz1 hz2 _ _ _ rfl O0.out _ rfl (by unfold maxLen; simp only [ba_size]; have := LS.out; omega) (by simp only [ba_size]; have := LS.out; omega) C1.out.size ?_; intro v1 w1 h1 h2 _; have B1 := Lib.hid (C1.out.grown h2 C1.out.size (fun k e => (O0.out.lt k e).1)); have O1 := Lib.hid (own_line2 h1); obtain ⟨g1, cap1, rfl⟩ := own_lineF O1.out; clear h1 h2))
            go_roundw
            case rel => exact ⟨j + 1, by omega, by go_num, B1.out, by rw [TT.out]; first | exact O1.out | (have := O1.out; rw [List.length_append] at this ⊢; exact this), by rw [TT.out]; have := OV.out; omega⟩
            case measure => simp [intOf]; omega
        · obtain rfl : j = k := by omega
          rw [List.take_of_length_le (by omega)] at OO hT
          have RES := Lib.hid (p := PrS fs (textL fs) 0) (.inr (.inr ⟨B0.out, hT, rfl, rfl⟩))
          clear hC hO
          rcases conv_bytes OO.out with ⟨hv, ht⟩ | ⟨g, cap', hv, cv⟩
          · rw [ht] at RES
            subst hv
            have cn := conv_nil wi
            go_wp2
            go_ret2
            exact ⟨⟨[], 0, rfl, RES.out⟩, CC.out⟩
          · subst hv
            generalize textL fs = bs at *
            go_wp2
            go_ret2
            exact ⟨⟨bs, 0, rfl, RES.out⟩, CC.out⟩
end Go.Proofs.YtmbnbediedpgmaaDoor
