import Derived.Shelf.Small.Bits
import Derived.Shelf.Strconv.Itoa0
import Derived.Test.YthhacbelbkkcmaaProg
import Derived.Test.YthhacbelbkkcmaaXAA
import Derived.Lib.AppendStr
import Derived.Lib.AppendIntMem
import Derived.Lib.OthersKept
import Derived.Lib.ItoaLen
import Derived.Laws.IdiomStrings
import Derived.Deep.RegionHeld3
import Derived.Test.YthhacbelbkkcmaaXAJ
import Derived.Test.YthhacbelbkkcmaaXAN
namespace Go.Proofs
open Go.Shelf
end Go.Proofs

namespace Go.Proofs.Ythhacbelbkkcmaa
open Go.RowKit
set_option linter.unusedVariables false
set_option linter.unusedSimpArgs false

/-- A flow's line, byte by byte. -/
def lineL (f : Fl) : List UInt8 := Lib.itoa f.d ++ [32] ++ f.c.data.toList ++ [32] ++ Lib.itoa f.a ++ [10]
theorem info8 : (Try.prog.info? 5).map (fun i => (i.zero, i.size, i.bytes)) = some (some (.int .u8 0), 1, 1) := by kernel_rfl

/-- The box of the flow. -/
def BoxL (w W : World) (d : Int) (c : ByteArray) (a : Int) : Prop := W.heap[w.heap.size]? = some (.cells #[.int .i64 d, .string c, .int .i64 a] 40 (0, 0))
theorem boxL_new (w : World) (d : Int) (c : ByteArray) (a : Int) : BoxL w (w.alloc (.cells #[.int .i64 d, .string c, .int .i64 a] 40)) d c a := by
  unfold BoxL
  show (w.heap.push _)[w.heap.size]? = _
  simp
theorem boxL_cells {w W : World} {d : Int} {c : ByteArray} {a : Int} (h : BoxL w W d c a) : W.cell? ⟨w.heap.size, 0, none⟩ = some (.int .i64 d) ∧ W.cell? ⟨w.heap.size, 1, none⟩ = some (.string c) ∧ W.cell? ⟨w.heap.size, 2, none⟩ = some (.int .i64 a) := by
  unfold BoxL at h
  refine ⟨?_, ?_, ?_⟩ <;> simp [World.cell?, h]

abbrev Pw (B : Nat) (w : World) : Prop := Lib.TabBelow Try.prog B w "internal/strconv.uint64pow10" .u64 Lib.pow10Tab
theorem Pw.later {B : Nat} {w w' : World} (h : Pw B w) (b : Below B w w') : Pw B w' := fun w2 b2 => h w2 (b.trans b2)

end Go.Proofs.Ythhacbelbkkcmaa

namespace Go.Proofs.Ythhacbelbkkcmaa
open Go.RowKit
set_option linter.unusedVariables false
set_option linter.unusedSimpArgs false

theorem baCat (a b : List UInt8) : (⟨a.toArray⟩ : ByteArray) ++ ⟨b.toArray⟩ = ⟨(a ++ b).toArray⟩ := by
  apply ByteArray.ext
  rw [ByteArray.data_append]
  simp
theorem catT (a b : List UInt8) (h : a.length + b.length ≤ 1000) (W : World) : (Op.stringOp .add ⟨a.toArray⟩ ⟨b.toArray⟩).run Try.prog W = .ok (.string ⟨(a ++ b).toArray⟩) W := by
  rw [← baCat]
  have h1 : ((⟨a.toArray⟩ : ByteArray).size : Int) ≤ 8388608 := by simp [ByteArray.size]; omega
  have h2 : ((⟨b.toArray⟩ : ByteArray).size : Int) ≤ 8388608 := by simp [ByteArray.size]; omega
  exact run_string_add W _ _ h1 h2
theorem conv1 (wr : World) (dig : Int) (h : 0 ≤ dig ∧ dig ≤ 9) : (convert 74 9 (.slice (some ⟨wr.heap.size, 0, none⟩) 1 1)).run Try.prog (wr.alloc (.cells #[.int .u8 (48 + dig)] 5)) = .ok (.string ⟨[UInt8.ofNat (48 + dig.toNat)].toArray⟩) (wr.alloc (.cells #[.int .u8 (48 + dig)] 5)) := by
  refine run_convert_bytes_back (P := Try.prog) _ 74 9 5 ⟨wr.heap.size, 0, none⟩ 1 [UInt8.ofNat (48 + dig.toNat)] (by kernel_rfl) (by kernel_rfl) (by kernel_rfl) (fun j hj => ?_)
  have : j = 0 := by simpa using hj
  subst this
  rw [Lib.add_plain, World.cell?_alloc_new]
  obtain ⟨n, rfl⟩ : ∃ n : Nat, dig = n := ⟨dig.toNat, by omega⟩
  have hn : n ≤ 9 := by omega
  simp
  omega
theorem ret_st {a b : List UInt8} (h : a = b) : Ending.returned (.string ⟨a.toArray⟩) = .returned (.string ⟨b.toArray⟩) := by rw [h]
/-- The digits of a number above 0; none of 0. -/
def dd (x : Nat) : List UInt8 := if x = 0 then [] else Lib.decDigits x
theorem dd_step {x : Nat} (h : 0 < x) : dd x = dd (x / 10) ++ [UInt8.ofNat (48 + x % 10)] := by
  unfold dd
  rw [if_neg (by omega)]
  by_cases h10 : x < 10
  · rw [if_pos (by omega), Lib.decDigits_one h10, Nat.mod_eq_of_lt h10]; rfl
  · rw [if_neg (by omega), Lib.decDigits, dif_neg h10]

set_option maxHeartbeats 2000000 in
set_option maxRecDepth 100000 in
theorem digits_pos (u : Nat) (hu : 0 < u) (hm : u ≤ 9223372036854775807) (w : World) :
    Calls Try.prog 50 #[.int .i64 ((u : Int))] w fun e w' => e = .returned (.string ⟨(Lib.itoa ((u : Int))).toArray⟩) ∧ Below w.heap.size w w' := by
  have IT := Lib.hid (p := Lib.itoa ((u : Int)) = dd u) (by rw [Lib.itoa_nonneg]; unfold dd; rw [if_neg (by omega)])
  have u0 : ¬ ((u : Int)) = 0 := by omega
  have u1 : (((u : Int)) == 0) = false := by simp; omega
  have LEN := Lib.hid (p := (dd u).length ≤ 21) (by
    have := Lib.itoa_length_le ((u : Int)) (by omega) (by omega)
    rw [Lib.itoa_nonneg] at this
    unfold dd; rw [if_neg (by omega)]; exact this)
  go_enter Try.func50, Try.ntmps50
  go_wp2
  go_loopw [3, 4] (fun a b wr => ∃ (x : Nat) (t : List UInt8), x ≤ u ∧ a = .string ⟨t.toArray⟩ ∧ b = .int .i64 ((x : Int)) ∧ RowKit.Hid (dd x ++ t = dd u) ∧ Below w.heap.size w wr) (fun _ b _ => (intOf b).natAbs)
  case atStart => exact ⟨u, [], Nat.le_refl _, rfl, rfl, List.append_nil _, Below.refl _ _⟩
  case round =>
    obtain ⟨x, t, hx, rfl, rfl, hD, hB⟩ := hrel
    have BB := Lib.hid hB
    clear hB
    by_cases h0 : x = 0
    · subst h0
      have TT := Lib.hid (p := t = dd u) (by have := hD.out; simpa [dd] using this)
      have un : ¬ (u : Int) < 0 := by omega
      go_wp2
      go_ret
      exact ⟨ret_st (by rw [IT.out, TT.out]), BB.out⟩
    · have m0 : ¬ ((x : Int)) = 0 := by omega
      have m1 : (((x : Int)) == 0) = false := by simp; omega
      obtain ⟨r, hr⟩ : ∃ r : Nat, x % 10 = r := ⟨_, rfl⟩
      obtain ⟨q, hq⟩ : ∃ q : Nat, x / 10 = q := ⟨_, rfl⟩
      have r1 : Int.tmod ((x : Int)) 10 = (r : Int) := by rw [Int.tmod_eq_emod_of_nonneg (by omega)]; omega
      have q1 : Int.tdiv ((x : Int)) 10 = (q : Int) := by rw [Int.tdiv_eq_ediv_of_nonneg (by omega)]; omega
      have r9 : r ≤ 9 := by omega
      have X10 := Lib.hid (show q < x by omega)
      have ST := Lib.hid (p := dd q ++ (UInt8.ofNat (48 + r) :: t) = dd u) (by have := hD.out; rw [dd_step (by omega), hr, hq] at this; simpa using this)
      have TL := Lib.hid (p := t.length ≤ 21) (by have := congrArg List.length hD.out; have := LEN.out; simp at *; omega)
      have tl := TL.out
      have cv := conv1 wr (r : Int) (by omega)
      rw [show ((r : Int)).toNat = r by omega] at cv
      have cat := catT [UInt8.ofNat (48 + r)] t (by simp; omega)
      have w1 : IntKind.i64.wrap (48 + (r : Int)) = 48 + (r : Int) := by rw [IntKind.wrap_i64]; omega
      have w2 : IntKind.u8.wrap (48 + (r : Int)) = 48 + (r : Int) := by simp [IntKind.wrap, IntKind.bits, IntKind.signed]; omega
      have w3 : IntKind.i64.wrap ((q : Int)) = (q : Int) := by rw [IntKind.wrap_i64]; omega
      have w4 : IntKind.i64.wrap ((r : Int)) = (r : Int) := by rw [IntKind.wrap_i64]; omega
      have w5 : IntKind.i64.wrap (r : Int) = (r : Int) := by rw [IntKind.wrap_i64]; omega
      have rd : ¬ (r : Int) < 0 := by omega
      obtain ⟨bb, hbb⟩ : ∃ bb, UInt8.ofNat (48 + r) = bb := ⟨_, rfl⟩
      rw [hbb] at cv cat
      have ST2 := Lib.hid (p := dd q ++ (bb :: t) = dd u) (by rw [← hbb]; exact ST.out)
      clear hr hq hbb tl
      go_wp2
      go_roundw
      case rel => exact ⟨q, bb :: t, by have := X10.out; omega, by first | rfl | simp, rfl, ST2.out, BB.out.alloc BB.out.size _⟩
      case measure => have := X10.out; simp [intOf]; omega
set_option maxHeartbeats 2000000 in
set_option maxRecDepth 100000 in
theorem digits_neg (u : Nat) (hu : 0 < u) (hm : u ≤ 9223372036854775808) (w : World) :
    Calls Try.prog 50 #[.int .i64 (-(u : Int))] w fun e w' => e = .returned (.string ⟨(Lib.itoa (-(u : Int))).toArray⟩) ∧ Below w.heap.size w w' := by
  have IT := Lib.hid (p := Lib.itoa (-(u : Int)) = 45 :: dd u) (by rw [Lib.itoa_neg u hu]; unfold dd; rw [if_neg (by omega)])
  have u0 : ¬ (-(u : Int)) = 0 := by omega
  have u1 : ((-(u : Int)) == 0) = false := by simp; omega
  have LEN := Lib.hid (p := (dd u).length ≤ 21) (by
    have := Lib.itoa_length_le (-(u : Int)) (by omega) (by omega)
    rw [Lib.itoa_neg u hu] at this
    unfold dd; rw [if_neg (by omega)]; simp at this; omega)
  go_enter Try.func50, Try.ntmps50
  go_wp2
  go_loopw [3, 4] (fun a b wr => ∃ (x : Nat) (t : List UInt8), x ≤ u ∧ a = .string ⟨t.toArray⟩ ∧ b = .int .i64 (-(x : Int)) ∧ RowKit.Hid (dd x ++ t = dd u) ∧ Below w.heap.size w wr) (fun _ b _ => (intOf b).natAbs)
  case atStart => exact ⟨u, [], Nat.le_refl _, rfl, rfl, List.append_nil _, Below.refl _ _⟩
  case round =>
    obtain ⟨x, t, hx, rfl, rfl, hD, hB⟩ := hrel
    have BB := Lib.hid hB
    clear hB
    by_cases h0 : x = 0
    · subst h0
      have TT := Lib.hid (p := t = dd u) (by have := hD.out; simpa [dd] using this)
      have un : -(u : Int) < 0 := by omega
      have tl : t.length ≤ 21 := by rw [TT.out]; exact LEN.out
      have cat := catT [45] t (by simp; omega)
      go_wp2
      go_ret
      exact ⟨by rw [IT.out, TT.out]; rfl, BB.out⟩
    · have m0 : ¬ (-(x : Int)) = 0 := by omega
      have m1 : ((-(x : Int)) == 0) = false := by simp; omega
      obtain ⟨r, hr⟩ : ∃ r : Nat, x % 10 = r := ⟨_, rfl⟩
      obtain ⟨q, hq⟩ : ∃ q : Nat, x / 10 = q := ⟨_, rfl⟩
      have r1 : Int.tmod (-(x : Int)) 10 = -(r : Int) := by rw [Int.neg_tmod, Int.tmod_eq_emod_of_nonneg (by omega)]; omega
      have q1 : Int.tdiv (-(x : Int)) 10 = -(q : Int) := by rw [Int.neg_tdiv, Int.tdiv_eq_ediv_of_nonneg (by omega)]; omega
      have r9 : r ≤ 9 := by omega
      have X10 := Lib.hid (show q < x by omega)
      have ST := Lib.hid (p := dd q ++ (UInt8.ofNat (48 + r) :: t) = dd u) (by have := hD.out; rw [dd_step (by omega), hr, hq] at this; simpa using this)
      have TL := Lib.hid (p := t.length ≤ 21) (by have := congrArg List.length hD.out; have := LEN.out; simp at *; omega)
      have tl := TL.out
      have cv := conv1 wr (r : Int) (by omega)
      rw [show ((r : Int)).toNat = r by omega] at cv
      have cat := catT [UInt8.ofNat (48 + r)] t (by simp; omega)
      have w1 : IntKind.i64.wrap (48 + (r : Int)) = 48 + (r : Int) := by rw [IntKind.wrap_i64]; omega
      have w2 : IntKind.u8.wrap (48 + (r : Int)) = 48 + (r : Int) := by simp [IntKind.wrap, IntKind.bits, IntKind.signed]; omega
      have w3 : IntKind.i64.wrap (-(q : Int)) = -(q : Int) := by rw [IntKind.wrap_i64]; omega
      have w4 : IntKind.i64.wrap (-(r : Int)) = -(r : Int) := by rw [IntKind.wrap_i64]; omega
      have w5 : IntKind.i64.wrap (r : Int) = (r : Int) := by rw [IntKind.wrap_i64]; omega
      have rd : ¬ (r : Int) < 0 := by omega
      obtain ⟨bb, hbb⟩ : ∃ bb, UInt8.ofNat (48 + r) = bb := ⟨_, rfl⟩
      rw [hbb] at cv cat
      have ST2 := Lib.hid (p := dd q ++ (bb :: t) = dd u) (by rw [← hbb]; exact ST.out)
      clear hr hq hbb tl
      by_cases rz : r = 0
      · subst rz
        have r2 : Int.tmod (-(x : Int)) 10 = 0 := by rw [r1]; rfl
        simp only [Int.natCast_zero, Int.add_zero] at cv
        clear r1 w1 w2 w4 w5 rd
        go_wp2
        go_roundw
        case rel => exact ⟨q, bb :: t, by have := X10.out; omega, by first | rfl | simp, rfl, ST2.out, BB.out.alloc BB.out.size _⟩
        case measure => have := X10.out; simp [intOf]; omega
      · have rn : -(r : Int) < 0 := by omega
        have w6 : IntKind.i64.wrap (- -(r : Int)) = (r : Int) := by rw [IntKind.wrap_i64]; omega
        go_wp2
        go_roundw
        case rel => exact ⟨q, bb :: t, by have := X10.out; omega, by first | rfl | simp, rfl, ST2.out, BB.out.alloc BB.out.size _⟩
        case measure => have := X10.out; simp [intOf]; omega
end Go.Proofs.Ythhacbelbkkcmaa

namespace Go.Proofs.Ythhacbelbkkcmaa
open Go.RowKit
set_option linter.unusedVariables false
set_option linter.unusedSimpArgs false

/-- The first thing that is wrong with a list of flows. -/
def badI : List Fl → Int
  | [] => 0
  | f :: fs => if valI f ≠ 0 then valI f else badI fs
theorem bad_at : ∀ (fs : List Fl) (k : Nat), k < fs.length → (∀ i, i < k → valI (fs.getD i default) = 0) → valI (fs.getD k default) ≠ 0 → badI fs = valI (fs.getD k default)
  | [], k, h, _, _ => by simp at h
  | f :: fs, 0, h, _, hv => by show (if valI f ≠ 0 then valI f else badI fs) = valI f; exact if_pos hv
  | f :: fs, k + 1, h, hz, hv => by
    show (if valI f ≠ 0 then valI f else badI fs) = valI (fs.getD k default)
    rw [if_neg (by have := hz 0 (by omega); simpa using this)]
    exact bad_at fs k (by simpa using h) (fun i hi => hz (i + 1) (by omega)) hv
theorem bad_none : ∀ (fs : List Fl), (∀ i, i < fs.length → valI (fs.getD i default) = 0) → badI fs = 0
  | [], _ => rfl
  | f :: fs, h => by
    show (if valI f ≠ 0 then valI f else badI fs) = 0
    rw [if_neg (by have := h 0 (by simp); simpa using this)]
    exact bad_none fs (fun i hi => h (i + 1) (by simpa using hi))
def textL (fs : List Fl) : List UInt8 := fs.flatMap lineL
/-- What Print answers. -/
def PrS (fs : List Fl) (t : List UInt8) (e : Int) : Prop := (badI fs ≠ 0 ∧ t = [] ∧ e = badI fs) ∨ (badI fs = 0 ∧ 1048576 < (textL fs).length ∧ t = [] ∧ e = 6) ∨ (badI fs = 0 ∧ (textL fs).length ≤ 1048576 ∧ t = textL fs ∧ e = 0)
def PrE (fs : List Fl) (e : Ending) : Prop := ∃ (t : List UInt8) (er : Int), e = .returned (.tuple #[.string ⟨t.toArray⟩, .int .i64 er]) ∧ PrS fs t er
theorem text_take {fs : List Fl} {k : Nat} (hk : k < fs.length) : textL (fs.take (k + 1)) = textL (fs.take k) ++ lineL (fs.getD k default) := by
  have e : fs[k]? = some (fs.getD k default) := by rw [List.getElem?_eq_getElem hk]; simp [List.getD, hk]
  unfold textL
  rw [List.take_add_one, e]
  simp
theorem text_le (fs : List Fl) (k : Nat) : (textL (fs.take k)).length ≤ (textL fs).length := by
  have : textL fs = textL (fs.take k) ++ textL (fs.drop k) := by unfold textL; rw [← List.flatMap_append, List.take_append_drop]
  rw [this]; simp
theorem val_cur {f : Fl} (h : valI f = 0) : f.c.size = 3 := by
  unfold valI at h
  split at h
  · omega
  · rename_i k
    have : curB f.c = true := by simpa using k
    exact (cur_out this).1
theorem conv_bytes {w : World} {B : Nat} {v : Value} {bs : List UInt8} (h : w.ownsRow B 5 1 v bs.length (Lib.byteCells bs)) : (v = .slice none 0 0 ∧ bs = []) ∨ ∃ g cap, v = .slice (some ⟨g, 0, none⟩) bs.length cap ∧ (convert 74 9 v).run Try.prog w = .ok (.string ⟨bs.toArray⟩) w := by
  have hh := h
  obtain ⟨h1, h2⟩ := h
  rcases h2 with ⟨h3, h2⟩ | ⟨g, cap, cur, rfl, hB, hg, hn, hm, hs, ht⟩
  · exact .inl ⟨h3, List.length_eq_zero_iff.1 h2⟩
  · refine .inr ⟨g, cap, rfl, run_convert_bytes_back (P := Try.prog) w 74 9 5 ⟨g, 0, none⟩ cap bs (by kernel_rfl) (by kernel_rfl) (by kernel_rfl) (fun j hj => ?_)⟩
    rw [Lib.add_plain, Nat.zero_add, hh.cellAt j (by omega)]
    simp [Lib.byteCells, hj]
theorem conv_nil (w : World) : (convert 74 9 (.slice none 0 0)).run Try.prog w = .ok (.string ⟨#[]⟩) w := by
  rw [run_convert_bytes_string w 74 9 5 none 0 0 (by kernel_rfl) (by kernel_rfl) (by kernel_rfl)]
  first | rfl | simp [loadCells, loadCellsFrom] | simp
theorem own_lineF {w : World} {B : Nat} {v : Value} {bs : List UInt8} {ls' : Fl} (h : w.ownsRow B 5 1 v (bs ++ lineL ls').length (Lib.byteCells (bs ++ lineL ls'))) : ∃ g cap, v = .slice (some ⟨g, 0, none⟩) (bs ++ lineL ls').length cap := by
  obtain ⟨h1, h2⟩ := h
  rcases h2 with ⟨rfl, h2⟩ | ⟨g, cap, cur, rfl, _⟩
  · simp [lineL] at h2
  · exact ⟨g, cap, rfl⟩

end Go.Proofs.Ythhacbelbkkcmaa

namespace Go.Proofs.Ythhacbelbkkcmaa
open Go.RowKit
set_option linter.unusedVariables false
set_option linter.unusedSimpArgs false

theorem digits_zero (w : World) : Calls Try.prog 50 #[.int .i64 0] w fun e w' => e = .returned (.string ⟨(Lib.itoa 0).toArray⟩) ∧ Below w.heap.size w w' := by
  have IT := Lib.hid (p := Lib.itoa 0 = [48]) (by rw [show (0 : Int) = ((0 : Nat) : Int) from rfl, Lib.itoa_nonneg, Lib.decDigits_one (by omega)]; rfl)
  go_enter Try.func50, Try.ntmps50
  go_wp2
  go_ret
  exact ⟨by rw [IT.out]; rfl, Below.refl _ _⟩
theorem digits_doc (n : Int) (h0 : -9223372036854775808 ≤ n) (h1 : n ≤ 9223372036854775807) (w : World) :
    Calls Try.prog 50 #[.int .i64 n] w fun e w' => e = .returned (.string ⟨(Lib.itoa n).toArray⟩) ∧ Below w.heap.size w w' := by
  rcases Int.lt_trichotomy n 0 with h | rfl | h
  · obtain ⟨u, rfl⟩ : ∃ u : Nat, n = -(u : Int) := ⟨n.natAbs, by omega⟩
    exact digits_neg u (by omega) (by omega) w
  · exact digits_zero w
  · obtain ⟨u, rfl⟩ : ∃ u : Nat, n = (u : Int) := ⟨n.toNat, by omega⟩
    exact digits_pos u (by omega) (by omega) w

set_option maxRecDepth 100000 in
set_option maxHeartbeats 4000000 in
theorem line_doc (d a : Int) (c : ByteArray) (w : World) (hc : c.size = 3) (hd : (Lit.int .i64 d).wf = true) (ha : (Lit.int .i64 a).wf = true) :
    Calls Try.prog 38 #[.agg #[.int .i64 d, .string c, .int .i64 a]] w fun e w' => e = .returned (.string ⟨(lineL ⟨d, c, a⟩).toArray⟩) ∧ Below w.heap.size w w' := by
  have d0 : -9223372036854775808 ≤ d ∧ d ≤ 9223372036854775807 := by simpa [Lit.wf, IntKind.min, IntKind.max, IntKind.bits, IntKind.signed] using hd
  have a0 : -9223372036854775808 ≤ a ∧ a ≤ 9223372036854775807 := by simpa [Lit.wf, IntKind.min, IntKind.max, IntKind.bits, IntKind.signed] using ha
  have ld := Lib.itoa_length_le d d0.1 d0.2
  have la := Lib.itoa_length_le a a0.1 a0.2
  obtain ⟨cl, rfl⟩ : ∃ cl : List UInt8, c = ⟨cl.toArray⟩ := ⟨c.data.toList, by cases c; simp⟩
  have lc : cl.length = 3 := by simpa [ByteArray.size] using hc
  have K1 := Lib.hid (fun W => digits_doc d d0.1 d0.2 W)
  have K2 := Lib.hid (fun W => digits_doc a a0.1 a0.2 W)
  have LL := Lib.hid (p := lineL ⟨d, ⟨cl.toArray⟩, a⟩ = Lib.itoa d ++ [32] ++ cl ++ [32] ++ Lib.itoa a ++ [10]) (by simp [lineL])
  generalize Lib.itoa d = xd at *
  generalize Lib.itoa a = xa at *
  have e1 := catT xd [32] (by simp; omega)
  have e2 := catT (xd ++ [32]) cl (by simp; omega)
  have e3 := catT (xd ++ [32] ++ cl) [32] (by simp; omega)
  have e4 := catT (xd ++ [32] ++ cl ++ [32]) xa (by simp; omega)
  have e5 := catT (xd ++ [32] ++ cl ++ [32] ++ xa) [10] (by simp; omega)
  simp only [List.append_assoc, List.cons_append, List.nil_append] at e1 e2 e3 e4 e5
  rw [LL.out]
  simp only [List.append_assoc, List.cons_append, List.nil_append]
  clear hd ha d0 a0 ld la hc LL
  go_enter Try.func38, Try.ntmps38
  go_wp2
  have X0 := Lib.hid (boxL_new w d ⟨cl.toArray⟩ a)
  go_region_held3 (fun w' => w'.cell? ⟨w.heap.size, 0, none⟩ = some (.int .i64 d) ∧ w'.cell? ⟨w.heap.size, 1, none⟩ = some (.string ⟨cl.toArray⟩) ∧ w'.cell? ⟨w.heap.size, 2, none⟩ = some (.int .i64 a))
    (refine ⟨?_, ?_, ?_⟩ <;> first | assumption | (go_simp; done))
    (first
    | (go_at_call 50; have qq := B1; refine (K2.out _).mono ?_; rintro e w2 ⟨rfl, h1⟩; have B2 := Lib.hid (B1.out.trans (h1.mono B1.out.size)); have zz := (by have := B1.out.size; simp at this; omega : w.heap.size < w1.heap.size); have y0 := (h1.cell (p := ⟨w.heap.size, 0, none⟩) zz).trans x0; have y1 := (h1.cell (p := ⟨w.heap.size, 1, none⟩) zz).trans x1; have y2 := (h1.cell (p := ⟨w.heap.size, 2, none⟩) zz).trans x2; clear h1)
    | (go_at_call 50; refine (K1.out _).mono ?_; rintro e w1 ⟨rfl, h1⟩; have B1 := Lib.hid (show Below (w.alloc (.cells #[.int .i64 d, .string ⟨cl.toArray⟩, .int .i64 a] 40)).heap.size (w.alloc (.cells #[.int .i64 d, .string ⟨cl.toArray⟩, .int .i64 a] 40)) w1 from (((Below.refl _ _).drew).trans h1)); obtain ⟨x0, x1, x2⟩ := boxL_cells (show BoxL w w1 d ⟨cl.toArray⟩ a from (B1.out.block _ (by simp)).trans X0.out); clear h1))
  all_goals go_wp2
  all_goals go_ret
  all_goals exact ⟨rfl, ((Below.refl _ _).alloc (Nat.le_refl _) _).trans (B2.out.mono (by simp))⟩
end Go.Proofs.Ythhacbelbkkcmaa

namespace Go.Proofs.Ythhacbelbkkcmaa
open Go.RowKit
set_option linter.unusedVariables false
set_option linter.unusedSimpArgs false

theorem own_keep {w w' : World} {B e s n : Nat} {v : Value} {xs : List Value} (h : w.ownsRow B e s v n xs) (hb : Below w.heap.size w w') : w'.ownsRow B e s v n xs := by
  obtain ⟨h1, h2⟩ := h
  refine ⟨h1, ?_⟩
  rcases h2 with h2 | ⟨g, cap, cur, rfl, hB, hg, r⟩
  · exact .inl h2
  · exact .inr ⟨g, cap, cur, rfl, hB, (hb.block g (Array.getElem?_eq_some_iff.1 hg).1).trans hg, r⟩
theorem ba_size (l : List UInt8) : (⟨l.toArray⟩ : ByteArray).size = l.length := by simp [ByteArray.size]
theorem own_line2 {w : World} {B : Nat} {v : Value} {bs ls : List UInt8} (h : w.ownsRow B 5 1 v (bs.length + (⟨ls.toArray⟩ : ByteArray).size) (Lib.byteCells bs ++ Lib.strCells ⟨ls.toArray⟩)) : w.ownsRow B 5 1 v (bs ++ ls).length (Lib.byteCells (bs ++ ls)) := by
  rw [ba_size] at h
  rw [List.length_append]
  have e : Lib.byteCells (bs ++ ls) = Lib.byteCells bs ++ Lib.strCells ⟨ls.toArray⟩ := by simp [Lib.byteCells, Lib.strCells]
  rw [e]; exact h
theorem lineL_len (d a : Int) (c : ByteArray) (hc : c.size = 3) (hd : (Lit.int .i64 d).wf = true) (ha : (Lit.int .i64 a).wf = true) : (lineL ⟨d, c, a⟩).length ≤ 60 := by
  have d0 : -9223372036854775808 ≤ d ∧ d ≤ 9223372036854775807 := by simpa [Lit.wf, IntKind.min, IntKind.max, IntKind.bits, IntKind.signed] using hd
  have a0 : -9223372036854775808 ≤ a ∧ a ≤ 9223372036854775807 := by simpa [Lit.wf, IntKind.min, IntKind.max, IntKind.bits, IntKind.signed] using ha
  have ld := Lib.itoa_length_le d d0.1 d0.2
  have la := Lib.itoa_length_le a a0.1 a0.2
  have : c.data.toList.length = c.size := Array.length_toList
  simp only [lineL, List.length_append, List.length_cons, List.length_nil, this]; omega

set_option maxRecDepth 100000 in
set_option maxHeartbeats 4000000 in
theorem rPrint_any (a : Option Addr) (n cap : Nat) (fs : List Fl) (w : World) (h : FL w a n fs) (hw : ∀ f ∈ fs, f.wf) :
    Calls Try.prog 21 #[.slice a n cap] w fun e w' => PrE fs e ∧ Below w.heap.size w w' := by
  have hl := h.1
  have hn := h.2.1
  have HF := Lib.hid h
  have WF := Lib.hid (p := ∀ i, i < n → (fs.getD i default).wf) (fun i hi => hw _ (by simp [List.getD, show i < fs.length by omega]))
  have HA := Lib.hid (p := 0 < n → ∃ b o, a = some ⟨b, o, none⟩ ∧ b < w.heap.size ∧ ∀ i, i < n → FC w b (o + i * 3) (fs.getD i default)) (fun h0 => by
    rcases h.2.2 with h3 | h3
    · omega
    · exact h3)
  obtain ⟨i0, hi, hz0, hz1, hz2⟩ := info_parts info8
  clear h hw
  go_enter Try.func21, Try.ntmps21
  go_wp2
  go_loopw [5] (fun t wr => ∃ k : Nat, k ≤ n ∧ t = .int .i64 k ∧ Below w.heap.size w wr ∧ RowKit.Hid (∀ i, i < k → valI (fs.getD i default) = 0)) (fun t _ => n - (intOf t).toNat)
  case atStart => exact ⟨0, by omega, rfl, Below.refl _ _, fun i hi => absurd hi (by omega)⟩
  case round =>
    obtain ⟨k, hk, rfl, hB, HZ⟩ := hrel
    have BB := Lib.hid hB
    by_cases hlt : k < n
    · obtain ⟨b, o, rfl, hb, hc⟩ := HA.out (by omega)
      obtain ⟨c0, c1, c2⟩ := (hc k hlt).later hB hb
      have kc : (k : Int) < (n : Int) := by omega
      have WK := Lib.hid (WF.out k hlt)
      obtain ⟨f, hf⟩ : ∃ f, fs.getD k default = f := ⟨_, rfl⟩
      have NXT := Lib.hid (p := valI f = 0 → ∀ i, i < k + 1 → valI (fs.getD i default) = 0) (fun g i hi => by
        rcases (show i < k ∨ i = k by omega) with q | q
        · exact HZ.out i q
        · rw [q, hf]; exact g)
      have BAD := Lib.hid (p := valI f ≠ 0 → badI fs = valI f) (fun g => by rw [← hf] at g ⊢; exact bad_at fs k (by omega) HZ.out g)
      rw [hf] at c0 c1 c2 WK
      obtain ⟨fd, fc, fa⟩ := f
      simp only at c0 c1 c2
      have KV := Lib.hid (fun W => rValid_any fd fa fc W WK.out.2.1)
      generalize hv : valI ⟨fd, fc, fa⟩ = V at *
      clear hB hc hf
      by_cases v0 : V = 0
      · subst v0
        go_wp2_with (go_at_call 37; refine (KV.out _).mono ?_; rintro e w1 ⟨rfl, h1⟩; have B1 := Lib.hid (BB.out.trans (h1.mono BB.out.size)); clear h1)
        go_roundw
        case rel => exact ⟨k + 1, by omega, by go_num, B1.out, by first | exact NXT.out rfl | exact NXT.out trivial⟩
        case measure => simp [intOf]; omega
      · have vb : (V == 0) = false := by simpa using v0
        go_wp2_with (go_at_call 37; refine (KV.out _).mono ?_; rintro e w1 ⟨rfl, h1⟩; have B1 := Lib.hid (BB.out.trans (h1.mono BB.out.size)); clear h1)
        go_ret2
        exact ⟨⟨[], V, rfl, .inl ⟨by rw [BAD.out v0]; exact v0, rfl, (BAD.out v0).symm⟩⟩, B1.out⟩
    · obtain rfl : k = n := by omega
      have B0 := Lib.hid (p := badI fs = 0) (bad_none fs (fun i hi => HZ.out i (by omega)))
      clear hB
      go_wp2
      go_loopw [4, 7] (fun v t wr => ∃ j : Nat, j ≤ k ∧ t = .int .i64 j ∧ Below w.heap.size w wr ∧ wr.ownsRow w.heap.size 5 1 v (textL (fs.take j)).length (Lib.byteCells (textL (fs.take j))) ∧ (textL (fs.take j)).length ≤ 1048576) (fun _ t _ => k - (intOf t).toNat)
      case atStart => exact ⟨0, by omega, rfl, BB.out, ⟨rfl, .inl ⟨rfl, rfl⟩⟩, by simp [textL]⟩
      case round =>
        rename World => wi
        obtain ⟨j, hj, rfl, hC, hO, hT⟩ := hrel
        have CC := Lib.hid hC
        have OO := Lib.hid hO
        by_cases hlt : j < k
        · obtain ⟨b, o, rfl, hb, hc⟩ := HA.out (by omega)
          obtain ⟨c0, c1, c2⟩ := (hc j hlt).later hC hb
          have kc : (j : Int) < (k : Int) := by omega
          have WK := Lib.hid (WF.out j hlt)
          have VZ := HZ.out j hlt
          have TT := Lib.hid (text_take (fs := fs) (k := j) (by omega))
          have TL := Lib.hid (text_le fs (j + 1))
          obtain ⟨f, hf⟩ : ∃ f, fs.getD j default = f := ⟨_, rfl⟩
          rw [hf] at c0 c1 c2 WK VZ TT
          obtain ⟨fd, fc, fa⟩ := f
          have SZ := val_cur VZ
          simp only at c0 c1 c2 SZ
          have KA := Lib.hid (fun W => line_doc fd fa fc W SZ WK.out.1 WK.out.2.2)
          have LS := Lib.hid (lineL_len fd fa fc SZ WK.out.1 WK.out.2.2)
          generalize textL (fs.take j) = bs at *
          clear hC hc hf VZ hO
          by_cases ov : 1048576 < (bs ++ lineL ⟨fd, fc, fa⟩).length
          · have ov2 : (1048576 : Int) < (bs.length : Int) + ((lineL ⟨fd, fc, fa⟩).length : Int) := by rw [List.length_append] at ov; omega
            have LONG := Lib.hid (p := PrS fs [] 6) (.inr (.inl ⟨B0.out, Nat.lt_of_lt_of_le ov (by rw [← TT.out]; exact TL.out), rfl, rfl⟩))
            clear ov
            go_wp2_with (first
              | (go_at_call 38; refine (KA.out _).mono ?_; rintro e w0 ⟨rfl, h1⟩; have C1 := Lib.hid (CC.out.trans (h1.mono CC.out.size)); have O0 := Lib.hid (own_keep OO.out h1); clear h1)
              | (at_builtin; refine Lib.wpList_append_own_string _ rfl _ _ 74 9 rfl w.heap.size 5 i0 Try.underlying74 Try.underlying9 hi hz0 hz1 hz2 _ _ _ rfl O0.out _ rfl (by unfold maxLen; simp only [ba_size]; have := LS.out; omega) (by simp only [ba_size]; have := LS.out; omega) C1.out.size ?_; intro v1 w1 h1 h2 _; have B1 := Lib.hid (C1.out.grown h2 C1.out.size (fun k e => (O0.out.lt k e).1)); have O1 := Lib.hid (own_line2 h1); obtain ⟨g1, cap1, rfl⟩ := own_lineF O1.out; clear h1 h2))
            go_ret2
            exact ⟨⟨[], 6, rfl, LONG.out⟩, B1.out⟩
          · have ov2 : ¬ (1048576 : Int) < (bs.length : Int) + ((lineL ⟨fd, fc, fa⟩).length : Int) := by rw [List.length_append] at ov; omega
            have OV := Lib.hid ov
            clear ov
            go_wp2_with (first
              | (go_at_call 38; refine (KA.out _).mono ?_; rintro e w0 ⟨rfl, h1⟩; have C1 := Lib.hid (CC.out.trans (h1.mono CC.out.size)); have O0 := Lib.hid (own_keep OO.out h1); clear h1)
              | (at_builtin; refine Lib.wpList_append_own_string _ rfl _ _ 74 9 rfl w.heap.size 5 i0 Try.underlying74 Try.underlying9 hi hz0 hz1 hz2 _ _ _ rfl O0.out _ rfl (by unfold maxLen; simp only [ba_size]; have := LS.out; omega) (by simp only [ba_size]; have := LS.out; omega) C1.out.size ?_; intro v1 w1 h1 h2 _; have B1 := Lib.hid (C1.out.grown h2 C1.out.size (fun k e => (O0.out.lt k e).1)); have O1 := Lib.hid (own_line2 h1); obtain ⟨g1, cap1, rfl⟩ := own_lineF O1.out; clear h1 h2))
            go_roundw
            case rel => exact ⟨j + 1, by omega, by go_num, B1.out, by rw [TT.out]; first | exact O1.out | (have := O1.out; rw [List.length_append] at this ⊢; exact this), by rw [TT.out]; have := OV.out; omega⟩
            case measure => simp [intOf]; omega
        · obtain rfl : j = k := by omega
          rw [List.take_of_length_le (by omega)] at OO hT
          have RES := Lib.hid (p := PrS fs (textL fs) 0) (.inr (.inr ⟨B0.out, hT, rfl, rfl⟩))
          clear hC hO
          rcases conv_bytes OO.out with ⟨hv, ht⟩ | ⟨g, cap', hv, cv⟩
          · rw [ht] at RES
            subst hv
            have cn := conv_nil wi
            go_wp2
            go_ret2
            exact ⟨⟨[], 0, rfl, RES.out⟩, CC.out⟩
          · subst hv
            generalize textL fs = bs at *
            go_wp2
            go_ret2
            exact ⟨⟨bs, 0, rfl, RES.out⟩, CC.out⟩
end Go.Proofs.Ythhacbelbkkcmaa

namespace Go.Proofs.Ythhacbelbkkcmaa
open Go.RowKit
set_option linter.unusedVariables false
set_option linter.unusedSimpArgs false

theorem prs_len {fs : List Fl} {t : List UInt8} {e : Int} (h : PrS fs t e) : t.length ≤ 1048576 := by
  rcases h with ⟨_, rfl, _⟩ | ⟨_, _, rfl, _⟩ | ⟨_, a, rfl, _⟩
  · simp
  · simp
  · exact a
theorem prs_oneE {fs : List Fl} {t t' : List UInt8} {e e' : Int} (h : PrS fs t e) (h' : PrS fs t' e') : t = t' ∧ e = e' := by
  rcases h with ⟨a, b, c⟩ | ⟨a, b, c, d⟩ | ⟨a, b, c, d⟩ <;> rcases h' with ⟨a', b', c'⟩ | ⟨a', b', c', d'⟩ | ⟨a', b', c', d'⟩ <;> first
    | exact absurd a' a
    | exact absurd a a'
    | omega
    | (subst b b'; exact ⟨rfl, by omega⟩)
    | (subst c c'; exact ⟨rfl, by omega⟩)
theorem sz_list {t : List UInt8} (h : t.length ≤ 1048576) : (⟨t.toArray⟩ : ByteArray).size ≤ maxLen := by
  have : (⟨t.toArray⟩ : ByteArray).size = t.length := by simp [ByteArray.size]
  unfold maxLen
  omega
def AnsP (fs : List Fl) (gs : List Fl) : Prop := ∃ t er p er', PrS fs t er ∧ ParS ⟨t.toArray⟩ gs p er'
theorem AnsP.one {fs gs gs' : List Fl} (h : AnsP fs gs) (h' : AnsP fs gs') : gs = gs' := by
  obtain ⟨t, er, p, er', h1, h2⟩ := h
  obtain ⟨t2, er2, p2, er2', k1, k2⟩ := h'
  obtain ⟨rfl, _⟩ := prs_oneE h1 k1
  exact (par_one h2 k2).1
set_option maxRecDepth 100000 in
set_option maxHeartbeats 4000000 in
theorem answer_parse (k : Int) (a : Option Addr) (n cap : Nat) (N : Int) (fs : List Fl) (w : World) (h : AqF w a n cap fs) (hf : ∀ f ∈ fs, f.wf) (k1 : ¬ k = 1) (k2 : ¬ k = 2) (k3 : ¬ k = 3) (k4 : ¬ k = 4) :
    Calls Try.prog 6 #[.agg #[.int .i64 k, .slice a n cap, .int .i64 N]] w fun e w' => AnsE w (fun gs ts => AnsP fs gs ∧ ts = []) e w' := by
  have hl := h.fl.1
  have hn := h.fl.2.1
  have H := Lib.hid h
  have A0 := Lib.hid (al_bel w (aqb k a n cap N))
  have CE := Lib.hid (fun W (b : Below (w.alloc (aqb k a n cap N)).heap.size (w.alloc (aqb k a n cap N)) W) => aq_box b)
  have KP := Lib.hid (fun W (q : FL W a n fs) => rPrint_any a n cap fs W q hf)
  have K1 := Lib.hid (fun (t : List UInt8) W (q : t.length ≤ 1048576) => parse_any ⟨t.toArray⟩ W (sz_list q))
  have K2 := Lib.hid (fun (t : List UInt8) W (q : t.length ≤ 1048576) => rParse_any ⟨t.toArray⟩ W (sz_list q))
  have KS := Lib.hid (fun A B n C D fs W (h : FL W A n fs) (h' : FL W B n fs) => same_fl A B n C D fs W h h')
  clear h hf
  obtain ⟨c0, c1, c2⟩ := CE.out _ (Below.refl _ _)
  unfold aqb at c0 c1 c2 A0 CE
  go_enter Try.func6, Try.ntmps6
  go_wp2_with (first
    | (go_at_call 21; refine (KP.out _ (H.out.fl.later A0.out)).mono ?_; rintro e w2 ⟨⟨t, er0, rfl, hP⟩, h1⟩; have B2 := Lib.hid h1; have PS := Lib.hid hP; have PL := Lib.hid (prs_len hP); clear h1 hP)
    | (go_at_call 22; refine (K1.out _ _ PL.out).mono ?_; rintro e w3 ⟨h1, h2⟩; have O3 := Lib.hid h1; obtain ⟨v3, gs, p, er, rfl, g1, g2, g3⟩ := h1; obtain ⟨A3, C3, rfl, hF⟩ := fl_of_own g2 (by omega); have F3 := Lib.hid hF; have G2 := Lib.hid g2; have G3 := Lib.hid (p := ParS _ gs p er) g3; have B3 := Lib.hid h2; clear h2 hF g2 g3 O3)
    | (go_at_call 23; refine (K2.out _ _ PL.out).mono ?_; rintro e w4 ⟨h1, h2⟩; obtain ⟨A', C', gs', p', er', rfl, HF'⟩ := par_out h1; have B4 := Lib.hid h2; clear h1 h2; obtain ⟨rfl, rfl, rfl⟩ := par_one G3.out HF'.out.2)
    | (go_at_call 7; refine (KS.out _ _ _ _ _ gs _ (F3.out.later B4.out) HF'.out.1).mono ?_; rintro e w5 ⟨rfl, h1⟩; have B5 := Lib.hid (B4.out.trans (h1.mono B4.out.size)); clear h1))
  all_goals
    refine bodyPost_ret (v := .tuple #[.slice A3 gs.length C3, .slice none 0 0, .bool true]) (by simp [results, Try.results6, go_sem]) rfl ?_
    exact ⟨_, _, gs, [], rfl, ⟨⟨_, _, _, _, PS.out, G3.out⟩, rfl⟩, own_monoF (ownF_later G2.out B5.out) (Nat.le_trans A0.out.size B2.out.size), World.ownsRow_nil _ _ _ _, by omega, by simp, ((A0.out.trans (B2.out.mono A0.out.size)).trans (B3.out.mono (Nat.le_trans A0.out.size B2.out.size))).trans (B5.out.mono (Nat.le_trans (Nat.le_trans A0.out.size B2.out.size) B3.out.size))⟩
end Go.Proofs.Ythhacbelbkkcmaa
