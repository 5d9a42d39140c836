/-
  WALK: Print (the program's).
-/
import Derived.Test.YtmdgfcldohmjdaaDoorWAppLine
import Derived.Laws.IdiomStrings
namespace Go.Proofs.YtmdgfcldohmjdaaDoor
open Go.RowKit
set_option linter.unusedVariables false
set_option linter.unusedSimpArgs false

/-- The first thing that is wrong with a list of flows. -/
def badI : List Fl → Int
  | [] => 0
  | f :: fs => if valI f ≠ 0 then valI f else badI fs
theorem bad_at : ∀ (fs : List Fl) (k : Nat), k < fs.length → (∀ i, i < k → valI (fs.getD i default) = 0) → valI (fs.getD k default) ≠ 0 → badI fs = valI (fs.getD k default)
  | [], k, h, _, _ => by simp at h
  | f :: fs, 0, h, _, hv => by show (if valI f ≠ 0 then valI f else badI fs) = valI f; exact if_pos hv
  | f :: fs, k + 1, h, hz, hv => by
    show (if valI f ≠ 0 then valI f else badI fs) = valI (fs.getD k default)
    rw [if_neg (by have := hz 0 (by omega); simpa using this)]
    exact bad_at fs k (by simpa using h) (fun i hi => hz (i + 1) (by omega)) hv
theorem bad_none : ∀ (fs : List Fl), (∀ i, i < fs.length → valI (fs.getD i default) = 0) → badI fs = 0
  | [], _ => rfl
  | f :: fs, h => by
    show (if valI f ≠ 0 then valI f else badI fs) = 0
    rw [if_neg (by have := h 0 (by simp); simpa using this)]
    exact bad_none fs (fun i hi => h (i + 1) (by simpa using hi))
def textL (fs : List Fl) : List UInt8 := fs.flatMap lineL
/-- What Print answers. -/
def PrS (fs : List Fl) (t : List UInt8) (e : Int) : Prop := (badI fs ≠ 0 ∧ t = [] ∧ e = badI fs) ∨ (badI fs = 0 ∧ 1048576 < (textL fs).length ∧ t = [] ∧ e = 6) ∨ (badI fs = 0 ∧ (textL fs).length ≤ 1048576 ∧ t = textL fs ∧ e = 0)
theorem prs_one {fs : List Fl} {t t' : List UInt8} {e e' : Int} (h : PrS fs t e) (h' : PrS fs t' e') : t = t' ∧ e = e' := by
  rcases h with ⟨a, b, c⟩ | ⟨a, b, c, d⟩ | ⟨a, b, c, d⟩ <;> rcases h' with ⟨a', b', c'⟩ | ⟨a', b', c', d'⟩ | ⟨a', b', c', d'⟩ <;> first
    | exact absurd a' a
    | exact absurd a a'
    | omega
    | (subst b b'; exact ⟨rfl, by omega⟩)
    | (subst c c'; exact ⟨rfl, by omega⟩)
def PrE (fs : List Fl) (e : Ending) : Prop := ∃ (t : List UInt8) (er : Int), e = .returned (.tuple #[.string ⟨t.toArray⟩, .int .i64 er]) ∧ PrS fs t er
theorem text_take {fs : List Fl} {k : Nat} (hk : k < fs.length) : textL (fs.take (k + 1)) = textL (fs.take k) ++ lineL (fs.getD k default) := by
  have e : fs[k]? = some (fs.getD k default) := by rw [List.getElem?_eq_getElem hk]; simp [List.getD, hk]
  unfold textL
  rw [List.take_add_one, e]
  simp
theorem text_le (fs : List Fl) (k : Nat) : (textL (fs.take k)).length ≤ (textL fs).length := by
  have : textL fs = textL (fs.take k) ++ textL (fs.drop k) := by unfold textL; rw [← List.flatMap_append, List.take_append_drop]
  rw [this]; simp
theorem val_cur {f : Fl} (h : valI f = 0) : f.c.size = 3 := by
  unfold valI at h
  split at h
  · omega
  · rename_i k
    have : curB f.c = true := by simpa using k
    exact (cur_out this).1
theorem conv_bytes {w : World} {B : Nat} {v : Value} {bs : List UInt8} (h : w.ownsRow B 5 1 v bs.length (Lib.byteCells bs)) : (v = .slice none 0 0 ∧ bs = []) ∨ ∃ g cap, v = .slice (some ⟨g, 0, none⟩) bs.length cap ∧ (convert 55 9 v).run Tryd.prog w = .ok (.string ⟨bs.toArray⟩) w := by
  have hh := h
  obtain ⟨h1, h2⟩ := h
  rcases h2 with ⟨h3, h2⟩ | ⟨g, cap, cur, rfl, hB, hg, hn, hm, hs, ht⟩
  · exact .inl ⟨h3, List.length_eq_zero_iff.1 h2⟩
  · refine .inr ⟨g, cap, rfl, run_convert_bytes_back (P := Tryd.prog) w 55 9 5 ⟨g, 0, none⟩ cap bs (by kernel_rfl) (by kernel_rfl) (by kernel_rfl) (fun j hj => ?_)⟩
    rw [Lib.add_plain, Nat.zero_add, hh.cellAt j (by omega)]
    simp [Lib.byteCells, hj]
theorem conv_nil (w : World) : (convert 55 9 (.slice none 0 0)).run Tryd.prog w = .ok (.string ⟨#[]⟩) w := by
  rw [run_convert_bytes_string w 55 9 5 none 0 0 (by kernel_rfl) (by kernel_rfl) (by kernel_rfl)]
  first | rfl | simp [loadCells, loadCellsFrom] | simp
theorem own_lineF {w : World} {B : Nat} {v : Value} {bs : List UInt8} {ls' : Fl} (h : w.ownsRow B 5 1 v (bs ++ lineL ls').length (Lib.byteCells (bs ++ lineL ls'))) : ∃ g cap, v = .slice (some ⟨g, 0, none⟩) (bs ++ lineL ls').length cap := by
  obtain ⟨h1, h2⟩ := h
  rcases h2 with ⟨rfl, h2⟩ | ⟨g, cap, cur, rfl, _⟩
  · simp [lineL] at h2
  · exact ⟨g, cap, rfl⟩

set_option maxRecDepth 100000 in
set_option maxHeartbeats 4000000 in
theorem print_any (a : Option Addr) (n cap : Nat) (fs : List Fl) (w : World) (h : FL w a n fs) (hw : ∀ f ∈ fs, f.wf) (hP : Pw w.heap.size w) :
    Calls Tryd.prog 10 #[.slice a n cap] w fun e w' => PrE fs e ∧ Below w.heap.size w w' := by
  have hl := h.1
  have hn := h.2.1
  have HF := Lib.hid h
  have HP := Lib.hid hP
  have WF := Lib.hid (p := ∀ i, i < n → (fs.getD i default).wf) (fun i hi => hw _ (by simp [List.getD, show i < fs.length by omega]))
  have HA := Lib.hid (p := 0 < n → ∃ b o, a = some ⟨b, o, none⟩ ∧ b < w.heap.size ∧ ∀ i, i < n → FC w b (o + i * 3) (fs.getD i default)) (fun h0 => by
    rcases h.2.2 with h3 | h3
    · omega
    · exact h3)
  clear h hw hP
  go_enter Tryd.func10, Tryd.ntmps10
  go_wp2
  go_loopw [12] (fun t wr => ∃ k : Nat, k ≤ n ∧ t = .int .i64 k ∧ Below w.heap.size w wr ∧ RowKit.Hid (∀ i, i < k → valI (fs.getD i default) = 0)) (fun t _ => n - (intOf t).toNat)
  case atStart => exact ⟨0, by omega, rfl, Below.refl _ _, fun i hi => absurd hi (by omega)⟩
  case round =>
    obtain ⟨k, hk, rfl, hB, HZ⟩ := hrel
    have BB := Lib.hid hB
    by_cases hlt : k < n
    · obtain ⟨b, o, rfl, hb, hc⟩ := HA.out (by omega)
      obtain ⟨c0, c1, c2⟩ := (hc k hlt).later hB hb
      have kc : (k : Int) < (n : Int) := by omega
      have WK := Lib.hid (WF.out k hlt)
      obtain ⟨f, hf⟩ : ∃ f, fs.getD k default = f := ⟨_, rfl⟩
      have NXT := Lib.hid (p := valI f = 0 → ∀ i, i < k + 1 → valI (fs.getD i default) = 0) (fun g i hi => by
        rcases (show i < k ∨ i = k by omega) with q | q
        · exact HZ.out i q
        · rw [q, hf]; exact g)
      have BAD := Lib.hid (p := valI f ≠ 0 → badI fs = valI f) (fun g => by rw [← hf] at g ⊢; exact bad_at fs k (by omega) HZ.out g)
      rw [hf] at c0 c1 c2 WK
      obtain ⟨fd, fc, fa⟩ := f
      simp only at c0 c1 c2
      have KV := Lib.hid (fun W => valid_any fd fa fc W WK.out.2.1)
      generalize hv : valI ⟨fd, fc, fa⟩ = V at *
      clear hB hc hf
      by_cases v0 : V = 0
      · subst v0
        go_wp2_with (go_at_call 22; refine (KV.out _).mono ?_; rintro e w1 ⟨rfl, h1⟩; have B1 := Lib.hid ((BB.out.alloc BB.out.size _).trans (h1.mono (Nat.le_trans BB.out.size (by simp)))); clear h1)
        go_roundw
        case rel => exact ⟨k + 1, by omega, by go_num, B1.out, by first | exact NXT.out rfl | exact NXT.out trivial⟩
        case measure => simp [intOf]; omega
      · have vb : (V == 0) = false := by simpa using v0
        go_wp2_with (go_at_call 22; refine (KV.out _).mono ?_; rintro e w1 ⟨rfl, h1⟩; have B1 := Lib.hid ((BB.out.alloc BB.out.size _).trans (h1.mono (Nat.le_trans BB.out.size (by simp)))); clear h1)
        go_ret2
        exact ⟨⟨[], V, rfl, .inl ⟨by rw [BAD.out v0]; exact v0, rfl, (BAD.out v0).symm⟩⟩, B1.out⟩
    · obtain rfl : k = n := by omega
      have B0 := Lib.hid (p := badI fs = 0) (bad_none fs (fun i hi => HZ.out i (by omega)))
      clear hB
      go_wp2
      go_loopw [7, 24] (fun v t wr => ∃ j : Nat, j ≤ k ∧ t = .int .i64 j ∧ Below w.heap.size w wr ∧ wr.ownsRow w.heap.size 5 1 v (textL (fs.take j)).length (Lib.byteCells (textL (fs.take j))) ∧ (textL (fs.take j)).length ≤ 1048576) (fun _ t _ => k - (intOf t).toNat)
      case atStart => exact ⟨0, by omega, rfl, BB.out, ⟨rfl, .inl ⟨rfl, rfl⟩⟩, by simp [textL]⟩
      case round =>
        rename World => wi
        obtain ⟨j, hj, rfl, hC, hO, hT⟩ := hrel
        have CC := Lib.hid hC
        have OO := Lib.hid hO
        by_cases hlt : j < k
        · obtain ⟨b, o, rfl, hb, hc⟩ := HA.out (by omega)
          obtain ⟨c0, c1, c2⟩ := (hc j hlt).later hC hb
          have kc : (j : Int) < (k : Int) := by omega
          have WK := Lib.hid (WF.out j hlt)
          have VZ := HZ.out j hlt
          have TT := Lib.hid (text_take (fs := fs) (k := j) (by omega))
          have TL := Lib.hid (text_le fs (j + 1))
          obtain ⟨f, hf⟩ : ∃ f, fs.getD j default = f := ⟨_, rfl⟩
          rw [hf] at c0 c1 c2 WK VZ TT
          obtain ⟨fd, fc, fa⟩ := f
          have SZ := val_cur VZ
          simp only at c0 c1 c2 SZ
          have KA := Lib.hid (fun v bs W (p1 : W.ownsRow w.heap.size 5 1 v (List.length bs) (Lib.byteCells bs)) (p2 : bs.length ≤ 1048576) (p3 : w.heap.size ≤ W.heap.size) (p4 : Pw w.heap.size W) => appendLine_any v bs.length w.heap.size bs fd fa fc W p1 p2 p3 SZ WK.out.1 WK.out.2.2 p4)
          generalize textL (fs.take j) = bs at *
          clear hC hc hf VZ hO
          by_cases ov : 1048576 < (bs ++ lineL ⟨fd, fc, fa⟩).length
          · have ov2 : (1048576 : Int) < (bs.length : Int) + ((lineL ⟨fd, fc, fa⟩).length : Int) := by rw [List.length_append] at ov; omega
            have LONG := Lib.hid (p := PrS fs [] 6) (.inr (.inl ⟨B0.out, Nat.lt_of_lt_of_le ov (by rw [← TT.out]; exact TL.out), rfl, rfl⟩))
            clear ov
            go_wp2_with (go_at_call 23; refine (KA.out _ bs _ (OO.out.alloc _) hT (Nat.le_trans CC.out.size (by simp)) (HP.out.later (CC.out.alloc CC.out.size _))).mono ?_; rintro e w1 ⟨v1, rfl, h1, h2⟩; have B1 := Lib.hid ((CC.out.alloc CC.out.size _).trans h2); rw [← List.length_append] at h1; have O1 := Lib.hid h1; obtain ⟨g1, cap1, rfl⟩ := own_lineF h1; clear h1 h2)
            go_ret2
            exact ⟨⟨[], 6, rfl, LONG.out⟩, B1.out⟩
          · have ov2 : ¬ (1048576 : Int) < (bs.length : Int) + ((lineL ⟨fd, fc, fa⟩).length : Int) := by rw [List.length_append] at ov; omega
            have OV := Lib.hid ov
            clear ov
            go_wp2_with (go_at_call 23; refine (KA.out _ bs _ (OO.out.alloc _) hT (Nat.le_trans CC.out.size (by simp)) (HP.out.later (CC.out.alloc CC.out.size _))).mono ?_; rintro e w1 ⟨v1, rfl, h1, h2⟩; have B1 := Lib.hid ((CC.out.alloc CC.out.size _).trans h2); rw [← List.length_append] at h1; have O1 := Lib.hid h1; obtain ⟨g1, cap1, rfl⟩ := own_lineF h1; clear h1 h2)
            go_roundw
            case rel => exact ⟨j + 1, by omega, by go_num, B1.out, by rw [TT.out]; first | exact O1.out | (have := O1.out; rw [List.length_append] at this ⊢; exact this), by rw [TT.out]; have := OV.out; omega⟩
            case measure => simp [intOf]; omega
        · obtain rfl : j = k := by omega
          rw [List.take_of_length_le (by omega)] at OO hT
          have RES := Lib.hid (p := PrS fs (textL fs) 0) (.inr (.inr ⟨B0.out, hT, rfl, rfl⟩))
          clear hC hO
          rcases conv_bytes OO.out with ⟨hv, ht⟩ | ⟨g, cap', hv, cv⟩
          · rw [ht] at RES
            subst hv
            have cn := conv_nil wi
            go_wp2
            go_ret2
            exact ⟨⟨[], 0, rfl, RES.out⟩, CC.out⟩
          · subst hv
            generalize textL fs = bs at *
            go_wp2
            go_ret2
            exact ⟨⟨bs, 0, rfl, RES.out⟩, CC.out⟩
end Go.Proofs.YtmdgfcldohmjdaaDoor
