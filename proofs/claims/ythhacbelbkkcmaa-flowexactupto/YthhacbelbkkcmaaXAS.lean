import Derived.Test.YthhacbelbkkcmaaXAR
namespace Go.Proofs.Ythhacbelbkkcmaa
open Go.RowKit
set_option linter.unusedVariables false
set_option linter.unusedSimpArgs false

theorem infoI : (Try.prog.info? 3).map (fun i => (i.zero, i.size, i.bytes)) = some (some (.int .i64 0), 1, 8) := by kernel_rfl
theorem make_at (n : Nat) (hn : n ≤ 1048576) (W : World) : (Instr.makeSlice 73 (.int .i64 (n : Int)) (.int .i64 (n : Int))).run Try.prog W = .ok (.slice (some ⟨W.heap.size, 0, none⟩) n n) (W.alloc (.cells (madeCells #[.int .i64 0] n) 3)) := by
  obtain ⟨i0, hi, hz0, hz1, hz2⟩ := info_parts infoI
  have := run_make (P := Try.prog) W 73 3 i0 _ Try.underlying73 hi hz0 .i64 .i64 n n (by omega) (by omega) (by rw [hz2]; omega) (by omega)
  rw [hz1] at this
  simpa [Value.cells] using this
/-- The places in memory. -/
def At (w : World) (g : Nat) (ps : List Nat) : Prop := g < w.heap.size ∧ ∀ i, i < ps.length → w.cell? ⟨g, i, none⟩ = some (.int .i64 (ps.getD i 0 : Int)) ∧ w.frozen? ⟨g, i, none⟩ = false
theorem At.made (w : World) (n : Nat) : At (w.alloc (.cells (madeCells #[.int .i64 0] n) 3)) w.heap.size (List.replicate n 0) := by
  refine ⟨by simp, fun i hi => ⟨?_, by simp⟩⟩
  have hi' : i < n := by simpa using hi
  rw [World.cell?_alloc_new]
  simp [madeCells, hi', Nat.mod_one, List.getD]
theorem At.later {w w' : World} {B g : Nat} {ps : List Nat} (h : At w g ps) (b : Below B w w') (hB : g < B) (hs : w.heap.size ≤ w'.heap.size) : At w' g ps :=
  ⟨Nat.lt_of_lt_of_le h.1 hs, fun i hi => ⟨(b.cell (p := ⟨g, i, none⟩) hB).trans (h.2 i hi).1, (b.frozen (p := ⟨g, i, none⟩) hB).trans (h.2 i hi).2⟩⟩
theorem At.set {w : World} {g j v : Nat} {ps : List Nat} (h : At w g ps) (hj : j < ps.length) : At (w.setCell ⟨g, j, none⟩ (.int .i64 (v : Int))) g (ps.set j v) := by
  refine ⟨by simpa using h.1, fun i hi => ?_⟩
  rw [List.length_set] at hi
  obtain ⟨h1, h2⟩ := h.2 i hi
  refine ⟨?_, by simpa using h2⟩
  rw [getD_setN ps i j v hj]
  by_cases e : i = j
  · subst e
    rw [if_pos rfl]
    exact World.cell?_setCell_same' _ _ _ (by rw [h1]; rfl)
  · rw [if_neg e]
    exact (World.cell?_setCell_other _ _ _ _ (by simp [e])).trans h1
theorem wp_ov {o : Oper} {a : Act} {K : Act → World → Prop} {Q : Exit → Act → World → Prop} (w : World) (s x : Operand)
    (ho : o.op = .call { callee := .builtin .append, args := #[s, x], argTypes := #[24, 24] }) (B : Nat) (v : Value) (acc : List Fl) (f : Fl) (hs : a.eval s = v)
    (hx : a.eval x = .slice (some ⟨w.heap.size, 0, none⟩) 1 1) (hown : OV (w.alloc (.cells #[.int .i64 f.d, .string f.c, .int .i64 f.a] 40)) B v acc) (hl : acc.length ≤ 4398046511000) (hb : B ≤ (w.alloc (.cells #[.int .i64 f.d, .string f.c, .int .i64 f.a] 40)).heap.size)
    (h : ∀ v' w', OV w' B v' (acc ++ [f]) → (w.alloc (.cells #[.int .i64 f.d, .string f.c, .int .i64 f.a] 40)).grownBy w' v.ownBlock → K (a.put o.dst v') w') :
    o.wp Try.prog a (w.alloc (.cells #[.int .i64 f.d, .string f.c, .int .i64 f.a] 40)) K Q := by
  obtain ⟨i0, hi, hz0, hz1, hz2⟩ := info_parts infoF
  refine wp_append_own (P := Try.prog) _ s x 24 ho B 40 i0 (.agg #[.int .i64 0, .string ⟨#[]⟩, .int .i64 0]) 3 32 Try.underlying24 hi hz0 hz1 hz2 rfl (by decide) v _ _ hs hown ⟨w.heap.size, 0, none⟩ 1 1 (Fl.cells f) hx rfl ?_ ?_ (by unfold maxLen; omega) (by omega) hb ?_
  · intro j u hj
    match j, hj with
    | 0, hj => simp [Fl.cells] at hj; subst hj; simp [Addr.add]
    | 1, hj => simp [Fl.cells] at hj; subst hj; simp [Addr.add]
    | 2, hj => simp [Fl.cells] at hj; subst hj; simp [Addr.add]
  · intro u hu
    simp [Fl.cells] at hu
    rcases hu with rfl | rfl | rfl <;> rfl
  · intro v' w' h1 h2 _
    exact h v' w' (own_snocF h1) h2
theorem OV.len {w : World} {B : Nat} {v : Value} {l : List Fl} (h : OV w B v l) : lenV v = l.length := by
  rcases h.2 with ⟨q, q'⟩ | ⟨g, cap, cur, q, _⟩
  · rw [q, q']; rfl
  · rw [q]; rfl
theorem OV.alloc {w : World} {B : Nat} {v : Value} {l : List Fl} (h : OV w B v l) (o : Obj) : OV (w.alloc o) B v l := World.ownsRow.alloc h o
/-- Which list's head is the best of the first i. -/
def BI (Ls : List (List Fl)) (ps : List Nat) (i : Nat) (bv : Value) : Prop :=
  (bv = .int .i64 (-1) ∧ ∀ j, j < i → ¬ has Ls ps j) ∨ ∃ b : Nat, bv = .int .i64 (b : Int) ∧ b < i ∧ has Ls ps b ∧ ∀ j, j < i → has Ls ps j → hd Ls ps b ≤ hd Ls ps j ∧ (j < b → hd Ls ps b < hd Ls ps j)
theorem BI.skip {Ls : List (List Fl)} {ps : List Nat} {i : Nat} {bv : Value} (h : BI Ls ps i bv) (hn : ¬ has Ls ps i) : BI Ls ps (i + 1) bv := by
  rcases h with ⟨h1, h2⟩ | ⟨b, h1, h2, h3, h4⟩
  · exact .inl ⟨h1, fun j hj => by
      by_cases e : j = i
      · subst e; exact hn
      · exact h2 j (by omega)⟩
  · exact .inr ⟨b, h1, by omega, h3, fun j hj hh => by
      by_cases e : j = i
      · subst e; exact absurd hh hn
      · exact h4 j (by omega) hh⟩
theorem BI.first {Ls : List (List Fl)} {ps : List Nat} {i : Nat} (h : ∀ j, j < i → ¬ has Ls ps j) (hh : has Ls ps i) : BI Ls ps (i + 1) (.int .i64 (i : Int)) :=
  .inr ⟨i, rfl, by omega, hh, fun j hj hj' => by
    by_cases e : j = i
    · subst e; exact ⟨Int.le_refl _, fun q => by omega⟩
    · exact absurd hj' (h j (by omega))⟩
theorem BI.better {Ls : List (List Fl)} {ps : List Nat} {i b : Nat} (h4 : ∀ j, j < i → has Ls ps j → hd Ls ps b ≤ hd Ls ps j ∧ (j < b → hd Ls ps b < hd Ls ps j)) (hh : has Ls ps i) (hlt : hd Ls ps i < hd Ls ps b) : BI Ls ps (i + 1) (.int .i64 (i : Int)) :=
  .inr ⟨i, rfl, by omega, hh, fun j hj hj' => by
    by_cases e : j = i
    · subst e; exact ⟨Int.le_refl _, fun q => by omega⟩
    · have := (h4 j (by omega) hj').1
      exact ⟨by omega, fun _ => by omega⟩⟩
theorem BI.stay {Ls : List (List Fl)} {ps : List Nat} {i b : Nat} (hb : b < i) (h3 : has Ls ps b) (h4 : ∀ j, j < i → has Ls ps j → hd Ls ps b ≤ hd Ls ps j ∧ (j < b → hd Ls ps b < hd Ls ps j)) (hle : ¬ hd Ls ps i < hd Ls ps b) : BI Ls ps (i + 1) (.int .i64 (b : Int)) :=
  .inr ⟨b, rfl, by omega, h3, fun j hj hj' => by
    by_cases e : j = i
    · subst e; exact ⟨by omega, fun q => by omega⟩
    · exact h4 j (by omega) hj'⟩
/-- A list of the row, and its head. -/
theorem LL.at {w : World} {b o n : Nat} {Ls : List (List Fl)} {ps : List Nat} (h : LL w (some ⟨b, o, none⟩) n Ls) (j : Nat) (hj : j < n) : ∃ x c, w.cell? ⟨b, o + j, none⟩ = some (.slice x (Ls.getD j []).length c) ∧ b < w.heap.size ∧
    (has Ls ps j → ∃ bl ol, x = some ⟨bl, ol, none⟩ ∧ bl < w.heap.size ∧ FC w bl (ol + ps.getD j 0 * 3) ((Ls.getD j []).getD (ps.getD j 0) default)) := by
  obtain ⟨b', o', q, hb, hc⟩ := h.row (by omega)
  injection q with q
  injection q with qa qb
  subst qa qb
  obtain ⟨v, h1, x, c, rfl, f, _⟩ := hc j hj
  refine ⟨x, c, h1, hb, fun hh => ?_⟩
  unfold has at hh
  obtain ⟨bl, ol, q, hbl, hcl⟩ := fl_rowM f (by omega)
  exact ⟨bl, ol, q, hbl, hcl _ hh⟩
set_option maxRecDepth 100000 in
set_option maxHeartbeats 8000000 in
theorem rmerge_any (a : Option Addr) (n cap : Nat) (Ls : List (List Fl)) (w : World) (h : LL w a n Ls) (ht : ltot Ls ≤ 1048576) :
    Calls Try.prog 18 #[.slice a n cap] w fun e w' => Below w.heap.size w w' ∧
      (((∃ l ∈ Ls, srtB l = false) ∧ e = .returned (.tuple #[.slice none 0 0, .int .i64 1])) ∨
       ((∀ l ∈ Ls, srtB l = true) ∧ ∃ T v, e = .returned (.tuple #[v, .int .i64 0]) ∧ SV w' v T ∧ Srt T ∧ (∀ D, onDay D T = Ls.flatMap (onDay D)) ∧ T.length ≤ 1048576)) := by
  have hn : n ≤ 1048576 := h.2.1
  have mk := make_at n hn
  have H := Lib.hid h
  have HL := Lib.hid h.1
  clear h
  go_enter Try.func18, Try.ntmps18
  have AT0 := Lib.hid (At.made w n)
  have BW1 := Lib.hid (p := Below w.heap.size w (w.alloc (.cells (madeCells #[.int .i64 0] n) 3))) ((Below.refl _ _).alloc (Nat.le_refl _) _)
  have ZW1 := Lib.hid (p := w.heap.size + 1 ≤ (w.alloc (.cells (madeCells #[.int .i64 0] n) 3)).heap.size) (by simp)
  go_wp2
  generalize w.alloc (.cells (madeCells #[.int .i64 0] n) 3) = w1 at *
  have L1 := Lib.hid (H.out.later BW1.out)
  go_loopw [5] (fun x wr => ∃ i : Nat, i ≤ n ∧ x = .int .i64 (i : Int) ∧ (∀ j, j < i → srtB (Ls.getD j []) = true) ∧ Below w1.heap.size w1 wr) (fun x _ => n - (intOf x).toNat)
  case atStart => exact ⟨0, by omega, rfl, fun j hj => by omega, Below.refl _ _⟩
  case round =>
    obtain ⟨i, hi, rfl, hj, hB⟩ := hrel
    rename World => wr
    have BB := Lib.hid hB
    have HJ := Lib.hid hj
    by_cases hlt : i < n
    · obtain ⟨b, o, rfl, hb, hc⟩ := L1.out.row (by omega)
      obtain ⟨v, qv, fv⟩ := hc i hlt
      have NI := Lib.hid (p := srtB (Ls.getD i []) = true → ∀ j, j < i + 1 → srtB (Ls.getD j []) = true) (fun q j hj' => by
        by_cases e : j = i
        · subst e; exact q
        · exact HJ.out j (by omega))
      have MI := Lib.hid (p := Ls.getD i [] ∈ Ls) (by rw [show Ls.getD i [] = Ls[i]'(by rw [HL.out]; exact hlt) by simp [List.getD, show i < Ls.length by rw [HL.out]; exact hlt]]; exact List.getElem_mem _)
      have l2 := ltot_two Ls i
      generalize Ls.getD i [] = l at *
      obtain ⟨x, c, rfl, fl, _⟩ := fv
      have FW := Lib.hid fl
      obtain ⟨ln, hln⟩ : ∃ ln, l.length = ln := ⟨_, rfl⟩
      rw [hln] at qv FW l2
      have SB := Lib.hid (p := (∀ j, j + 1 < ln → (l.getD j default).d ≤ (l.getD (j + 1) default).d) → srtB l = true) (fun q => decide_eq_true (fun j h1 h2 => q j (by rw [← hln]; exact h2)))
      have SN := Lib.hid (p := ∀ j, j + 1 < ln → (l.getD (j + 1) default).d < (l.getD j default).d → srtB l = false) (fun j h1 q => decide_eq_false (fun r => by have := r j (by omega) (by omega); omega))
      have QV := Lib.hid (p := ∀ W, Below w1.heap.size w1 W → W.cell? ⟨b, o + i, none⟩ = some (.slice x ln c)) (fun W bb => (bb.cell (p := ⟨b, o + i, none⟩) hb).trans qv)
      have qr := QV.out wr hB
      have ki : (i : Int) < (n : Int) := by omega
      have kwi : IntKind.i64.wrap ((i : Int) + 1) = (i : Int) + 1 := by simp [IntKind.wrap, IntKind.bits, IntKind.signed]; omega
      clear fl qv hc hB hj hln
      go_wp2
      go_loopw [6] (fun t wy => ∃ k : Nat, 1 ≤ k ∧ k ≤ ln + 1 ∧ t = .int .i64 (k : Int) ∧ (∀ j, j + 1 < k → j + 1 < ln → (l.getD j default).d ≤ (l.getD (j + 1) default).d) ∧ Below w1.heap.size w1 wy) (fun t _ => ln + 1 - (intOf t).toNat)
      case atStart => exact ⟨1, by omega, by omega, rfl, fun j h1 h2 => by omega, BB.out⟩
      case round =>
        obtain ⟨k, h1, hk, rfl, ho, hB⟩ := hrel
        rename World => wy
        have BY := Lib.hid hB
        have HO := Lib.hid ho
        have qy := QV.out wy hB
        clear qr
        by_cases hkl : k < ln
        · obtain ⟨j, rfl⟩ : ∃ j, k = j + 1 := ⟨k - 1, by omega⟩
          obtain ⟨bl, ol, rfl, hbl, hcl⟩ := fl_rowM FW.out (by omega)
          obtain ⟨x0, x1, x2⟩ := (hcl j (by omega)).later hB hbl
          obtain ⟨y0, y1, y2⟩ := (hcl (j + 1) hkl).later hB hbl
          have NF := Lib.hid (SN.out j (by omega))
          have NT := Lib.hid (p := (l.getD j default).d ≤ (l.getD (j + 1) default).d → ∀ i, i + 1 < j + 1 + 1 → i + 1 < ln → (l.getD i default).d ≤ (l.getD (i + 1) default).d) (fun q i h2 h3 => by
            by_cases e : i = j
            · subst e; exact q
            · exact HO.out i (by omega) h3)
          generalize l.getD j default = fx at *
          generalize l.getD (j + 1) default = fy at *
          obtain ⟨xd, xc, xa⟩ := fx
          obtain ⟨yd, yc, ya⟩ := fy
          simp only at x0 x1 x2 y0 y1 y2 NF NT
          have kt : ((j : Int) + 1).toNat = j + 1 := by omega
          have kn : (j : Int) + 1 < (ln : Int) := by omega
          have kn2 : (j : Int) < (ln : Int) := by omega
          have kz : (0 : Int) ≤ (j : Int) + 1 := by omega
          have kw : IntKind.i64.wrap ((j : Int) + 1 - 1) = (j : Int) := by simp [IntKind.wrap, IntKind.bits, IntKind.signed]; omega
          have kw2 : IntKind.i64.wrap (j : Int) = (j : Int) := by simp [IntKind.wrap, IntKind.bits, IntKind.signed]; omega
          have kw3 : IntKind.i64.wrap ((j : Int) + 1 + 1) = (j : Int) + 1 + 1 := by simp [IntKind.wrap, IntKind.bits, IntKind.signed]; omega
          clear hcl ho
          by_cases hd : yd < xd
          · have E := Lib.hid (NF.out hd)
            clear hB
            go_wp2
            go_quiet (fail)
            obtain ⟨W5, hW5⟩ : ∃ W5, wy.drewN nq = W5 := ⟨_, rfl⟩
            have Q5 := Lib.hid (p := Below w.heap.size w W5) (BW1.out.trans ((show Below w1.heap.size w1 W5 by rw [← hW5]; exact ⟨BY.out.os, BY.out.tape, BY.out.output, BY.out.size, BY.out.block⟩).mono BW1.out.size))
            rw [hW5]
            clear hW5 x0 x1 x2 y0 y1 y2 qy
            go_wp2
            go_ret2
            exact ⟨Q5.out, .inl ⟨⟨l, MI.out, E.out⟩, rfl⟩⟩
          · have NJ := Lib.hid (NT.out (by omega))
            clear hB
            go_wp2
            go_quiet (fail)
            go_wp2
            go_roundw
            case rel => exact ⟨j + 1 + 1, by omega, by omega, by simp, NJ.out, ⟨BY.out.os, BY.out.tape, BY.out.output, BY.out.size, BY.out.block⟩⟩
            case measure => simp [intOf]; omega
        · have E := Lib.hid (NI.out (SB.out (fun j h2 => HO.out j (by omega) h2)))
          have kk : ¬ (k : Int) < (ln : Int) := by omega
          clear ho hB
          go_wp2
          go_roundw
          case rel => exact ⟨i + 1, by omega, by simp, E.out, BY.out⟩
          case measure => simp [intOf]; omega
    · obtain ⟨i_, hi_⟩ : ∃ i_, i = i_ := ⟨_, rfl⟩
      obtain rfl : i_ = i := hi_.symm
      obtain rfl : i_ = n := by omega
      have ki : ¬ (i_ : Int) < (i_ : Int) := by omega
      have ALL := Lib.hid (p := ∀ l ∈ Ls, srtB l = true) (fun l hm => by
        obtain ⟨j, hj', rfl⟩ := List.getElem_of_mem hm
        have := HJ.out j (by rw [← HL.out]; exact hj')
        rw [show Ls.getD j [] = Ls[j] by simp [List.getD, hj']] at this
        exact this)
      have SRT := Lib.hid (p := ∀ i, i < i_ → Srt (Ls.getD i [])) (fun i hi' => srtB_srt (HJ.out i hi'))
      have AT1 := Lib.hid (AT0.out.later (B := w1.heap.size) hB AT0.out.1 hB.size)
      have B0 := Lib.hid (BW1.out.trans (hB.mono BW1.out.size))
      have Z0 := Lib.hid (Nat.le_trans ZW1.out hB.size)
      clear hB hj
      go_wp2
      go_loopw [7] (fun v wx => ∃ (ps : List Nat) (acc : List Fl), RM Ls i_ ps acc ∧ At wx w.heap.size ps ∧ OV wx (w.heap.size + 1) v acc ∧ Below w.heap.size w wx ∧ w.heap.size + 1 ≤ wx.heap.size) (fun v _ => ltot Ls - lenV v)
      case atStart => exact ⟨_, [], RM.start, AT1.out, World.ownsRow_nil _ _ _ _, B0.out, Z0.out⟩
      case round =>
        obtain ⟨ps, acc, hR, hA, hO, hB, hZ⟩ := hrel
        rename World => wx
        have RR := Lib.hid hR
        have AA := Lib.hid hA
        have OO := Lib.hid hO
        have BX := Lib.hid hB
        have pl : ps.length = i_ := hR.len
        have al : acc.length ≤ ltot Ls := by rw [hR.cnt]; exact (sum_ltN Ls ps (by rw [HL.out]; exact pl) (fun i hi => hR.le i (by rw [← HL.out]; exact hi))).1
        have STR := Lib.hid (p := ∀ b, b < i_ → has Ls ps b → acc.length < ltot Ls) (fun b hb hh => by rw [hR.cnt]; exact (sum_ltN Ls ps (by rw [HL.out]; exact pl) (fun i hi => hR.le i (by rw [← HL.out]; exact hi))).2 b (by rw [HL.out]; exact hb) hh)
        have LX := Lib.hid (H.out.later hB)
        clear hR hA hO hB
        go_wp2
        go_loopw [8, 9] (fun bv x wy => ∃ i : Nat, i ≤ i_ ∧ x = .int .i64 (i : Int) ∧ BI Ls ps i bv ∧ ∃ q, wy = wx.drewN q) (fun _ x _ => i_ - (intOf x).toNat)
        case atStart => exact ⟨0, by omega, rfl, .inl ⟨rfl, fun j hj => by omega⟩, 0, rfl⟩
        case round =>
          obtain ⟨i, hi, rfl, hbi, q4, hwy⟩ := hrel
          rename World => wy
          have HY := Lib.hid hwy
          have NB := Lib.hid hbi
          by_cases hin : i < i_
          · obtain ⟨b, o, rfl, _⟩ := LX.out.row (by omega)
            obtain ⟨xi, ci, q1, hb, hx⟩ := LX.out.at (ps := ps) i hin
            have q1 : wy.cell? ⟨b, o + i, none⟩ = some (.slice xi (Ls.getD i []).length ci) := by rw [hwy]; exact q1
            have q2 : wy.cell? ⟨w.heap.size, i, none⟩ = some (.int .i64 (ps.getD i 0 : Int)) := by rw [hwy]; exact (AA.out.2 i (by omega)).1
            have ki : (i : Int) < (i_ : Int) := by omega
            have kwi : IntKind.i64.wrap ((i : Int) + 1) = (i : Int) + 1 := by simp [IntKind.wrap, IntKind.bits, IntKind.signed]; omega
            by_cases hh : has Ls ps i
            · obtain ⟨bi, oi, rfl, hbi', c0, c1, c2⟩ := hx hh
              have c0 : wy.cell? ⟨bi, oi + ps.getD i 0 * 3, none⟩ = some (.int .i64 (hd Ls ps i)) := by rw [hwy]; exact c0
              have HH := Lib.hid hh
              have kp : (ps.getD i 0 : Int) < ((Ls.getD i []).length : Int) := by unfold has at hh; omega
              have kpz : (0 : Int) ≤ (ps.getD i 0 : Int) := by omega
              clear hx c1 c2 hh
              rcases hbi with ⟨rfl, h2⟩ | ⟨bb, rfl, h2, h3, h4⟩
              · have NF := Lib.hid (BI.first h2 HH.out)
                clear hwy h2
                generalize hd Ls ps i = dI at *
                generalize ps.getD i 0 = pI at *
                generalize (Ls.getD i []).length = lI at *
                go_wp2
                go_quiet (fail)
                go_wp2
                go_roundw
                case rel => exact ⟨i + 1, by omega, by simp, NF.out, by rw [HY.out]; exact ⟨_, World.drewN_drewN _ _ _⟩⟩
                case measure => simp [intOf]; omega
              · obtain ⟨xb, cb, r1, _, hxb⟩ := LX.out.at (ps := ps) bb (by omega)
                obtain ⟨bl, ol, rfl, hbl, e0, _, _⟩ := hxb h3
                have r1 : wy.cell? ⟨b, o + bb, none⟩ = some (.slice (some ⟨bl, ol, none⟩) (Ls.getD bb []).length cb) := by rw [hwy]; exact r1
                have r2 : wy.cell? ⟨w.heap.size, bb, none⟩ = some (.int .i64 (ps.getD bb 0 : Int)) := by rw [hwy]; exact (AA.out.2 bb (by omega)).1
                have e0 : wy.cell? ⟨bl, ol + ps.getD bb 0 * 3, none⟩ = some (.int .i64 (hd Ls ps bb)) := by rw [hwy]; exact e0
                have kb : (ps.getD bb 0 : Int) < ((Ls.getD bb []).length : Int) := by have := h3; unfold has at this; omega
                have kbz : (0 : Int) ≤ (ps.getD bb 0 : Int) := by omega
                have kbn : (bb : Int) < (i_ : Int) := by omega
                have kb0 : ¬ (bb : Int) < 0 := by omega
                have kb1 : (0 : Int) ≤ (bb : Int) := by omega
                by_cases hlt : hd Ls ps i < hd Ls ps bb
                · have NF := Lib.hid (BI.better h4 HH.out hlt)
                  clear hwy h2 h3 h4 hxb
                  generalize hd Ls ps i = dI at *
                  generalize hd Ls ps bb = dB at *
                  generalize ps.getD i 0 = pI at *
                  generalize ps.getD bb 0 = pB at *
                  generalize (Ls.getD i []).length = lI at *
                  generalize (Ls.getD bb []).length = lB at *
                  go_wp2
                  go_quiet (fail)
                  go_wp2
                  go_roundw
                  case rel => exact ⟨i + 1, by omega, by simp, NF.out, by rw [HY.out]; exact ⟨_, World.drewN_drewN _ _ _⟩⟩
                  case measure => simp [intOf]; omega
                · have NF := Lib.hid (BI.stay h2 h3 h4 hlt)
                  clear hwy h2 h3 h4 hxb
                  generalize hd Ls ps i = dI at *
                  generalize hd Ls ps bb = dB at *
                  generalize ps.getD i 0 = pI at *
                  generalize ps.getD bb 0 = pB at *
                  generalize (Ls.getD i []).length = lI at *
                  generalize (Ls.getD bb []).length = lB at *
                  go_wp2
                  go_quiet (fail)
                  go_wp2
                  go_roundw
                  case rel => exact ⟨i + 1, by omega, by simp, NF.out, by rw [HY.out]; exact ⟨_, World.drewN_drewN _ _ _⟩⟩
                  case measure => simp [intOf]; omega
            · have NF := Lib.hid (hbi.skip hh)
              have kp : ¬ (ps.getD i 0 : Int) < ((Ls.getD i []).length : Int) := by unfold has at hh; omega
              have kpd : decide ((ps.getD i 0 : Int) < ((Ls.getD i []).length : Int)) = false := decide_eq_false kp
              have kpn : (ps.getD i 0 < (Ls.getD i []).length) = False := eq_false (by omega)
              have kpm : decide (ps.getD i 0 < (Ls.getD i []).length) = false := decide_eq_false (by omega)
              have kpl : (Ls.getD i []).length ≤ ps.getD i 0 := by omega
              rcases hbi with ⟨rfl, h2⟩ | ⟨bb, rfl, h2, h3, h4⟩
              · clear hwy h2 hx hh
                generalize ps.getD i 0 = pI at *
                generalize (Ls.getD i []).length = lI at *
                go_wp2
                go_quiet (fail)
                go_wp2
                go_roundw
                case rel => exact ⟨i + 1, by omega, by simp, NF.out, by rw [HY.out]; exact ⟨_, World.drewN_drewN _ _ _⟩⟩
                case measure => simp [intOf]; omega
              · clear hwy h2 h3 h4 hx hh
                generalize ps.getD i 0 = pI at *
                generalize (Ls.getD i []).length = lI at *
                go_wp2
                go_quiet (fail)
                go_wp2
                go_roundw
                case rel => exact ⟨i + 1, by omega, by simp, NF.out, by rw [HY.out]; exact ⟨_, World.drewN_drewN _ _ _⟩⟩
                case measure => simp [intOf]; omega
          · obtain rfl : i = i_ := by omega
            have ki : ¬ (i : Int) < (i : Int) := by omega
            rcases hbi with ⟨rfl, h2⟩ | ⟨bb, rfl, h2, h3, h4⟩
            · have DN := Lib.hid (RR.out.done HL.out h2)
              have OE := Lib.hid (p := OV wy (w.heap.size + 1) _ acc) (by rw [hwy]; exact OO.out.later ⟨rfl, rfl, rfl, Nat.le_refl _, fun _ _ => rfl⟩)
              have BE := Lib.hid (p := Below w.heap.size w wy) (by rw [hwy]; exact ⟨BX.out.os, BX.out.tape, BX.out.output, BX.out.size, BX.out.block⟩)
              clear hwy h2
              go_wp2
              go_ret2
              exact ⟨BE.out, .inr ⟨ALL.out, acc, _, rfl, OE.out.sv (by omega), RR.out.srt, DN.out, by omega⟩⟩
            · have ST := Lib.hid (RR.out.step SRT.out ⟨h2, h3, h4⟩)
              have SL := STR.out bb h2 h3
              have LE := OO.out.len
              obtain ⟨b, o, rfl, _⟩ := H.out.row (by omega)
              obtain ⟨xb, cb, r1, hb0, hxb⟩ := H.out.at (ps := ps) bb h2
              obtain ⟨bl, ol, rfl, hbl, hF⟩ := hxb h3
              have kb : (ps.getD bb 0 : Int) < ((Ls.getD bb []).length : Int) := by have := h3; unfold has at this; omega
              have l2 := ltot_two Ls bb
              have A1 := AA.out.2 bb (by omega)
              obtain ⟨p, hp⟩ : ∃ p, ps.getD bb 0 = p := ⟨_, rfl⟩
              rw [hp] at kb hF A1 ST
              generalize (Ls.getD bb []).getD p default = x at *
              obtain ⟨xd, xc, xa⟩ := x
              generalize (Ls.getD bb []).length = lb at *
              have CE := Lib.hid (p := ∀ W, Below (w.heap.size + 1) wx W → W.cell? ⟨b, o + bb, none⟩ = some (.slice (some ⟨bl, ol, none⟩) lb cb) ∧ W.cell? ⟨w.heap.size, bb, none⟩ = some (.int .i64 (p : Int)) ∧ W.cell? ⟨bl, ol + p * 3, none⟩ = some (.int .i64 xd) ∧ W.cell? ⟨bl, ol + p * 3 + 1, none⟩ = some (.string xc) ∧ W.cell? ⟨bl, ol + p * 3 + 2, none⟩ = some (.int .i64 xa)) (fun W bb' => by
                have b2 := BX.out.trans (bb'.mono (Nat.le_succ _))
                obtain ⟨f0, f1, f2⟩ := hF.later b2 hbl
                exact ⟨(b2.cell (p := ⟨b, o + bb, none⟩) hb0).trans r1, (bb'.cell (p := ⟨w.heap.size, bb, none⟩) (Nat.lt_succ_self _)).trans A1.1, f0, f1, f2⟩)
              have N5 : Below (w.heap.size + 1) wx wy := by rw [hwy]; exact ⟨rfl, rfl, rfl, Nat.le_refl _, fun _ _ => rfl⟩
              have OD := Lib.hid (p := OV wy.drew (w.heap.size + 1) _ acc) (by rw [hwy]; exact OO.out.later ⟨rfl, rfl, rfl, Nat.le_refl _, fun _ _ => rfl⟩)
              have ZD := Lib.hid (p := w.heap.size + 1 ≤ wy.drew.heap.size) (by rw [hwy]; exact hZ)
              have NA := Lib.hid (p := Below (w.heap.size + 1) wx (wy.drew.alloc (.cells #[.int .i64 xd, .string xc, .int .i64 xa] 40))) (N5.drew.alloc ZD.out _)
              have F1 := Lib.hid (p := ∀ W, Below (w.heap.size + 1) wx W → W.frozen? ⟨w.heap.size, bb, none⟩ = false) (fun W bb' => (bb'.frozen (p := ⟨w.heap.size, bb, none⟩) (Nat.lt_succ_self _)).trans A1.2)
              have A2 := Lib.hid AA.out
              have PLN := Lib.hid (p := bb < ps.length) (by omega)
              obtain ⟨a0, a1, a2, a3, a4⟩ := CE.out _ NA.out
              obtain ⟨d0, d1, d2, d3, d4⟩ := CE.out _ N5
              have kb0 : ¬ (bb : Int) < 0 := by omega
              have kb1 : (0 : Int) ≤ (bb : Int) := by omega
              have kbn : (bb : Int) < (i : Int) := by omega
              have kpz : (0 : Int) ≤ (p : Int) := by omega
              have kwp : IntKind.i64.wrap ((p : Int) + 1) = (p : Int) + 1 := by simp [IntKind.wrap, IntKind.bits, IntKind.signed]; omega
              clear hwy h2 h3 h4 hxb hF r1 A1 N5 hp
              go_wp2
              refine wp_region_held_drew (S := (fun w' => w'.cell? ⟨b, o + bb, none⟩ = some (.slice (some ⟨bl, ol, none⟩) lb cb) ∧ w'.cell? ⟨w.heap.size, bb, none⟩ = some (.int .i64 (p : Int)) ∧ w'.cell? ⟨bl, ol + p * 3, none⟩ = some (.int .i64 xd) ∧ w'.cell? ⟨bl, ol + p * 3 + 1, none⟩ = some (.string xc) ∧ w'.cell? ⟨bl, ol + p * 3 + 2, none⟩ = some (.int .i64 xa))) (by kernel_rfl) ?_ (fun hHeld => ?_)
              · (try dsimp only)
                (refine ⟨?_, ?_, ?_, ?_, ?_⟩ <;> first | assumption | (go_simp; done))
              refine wpAnyH_take (i := 0) (oi := { dst := some 95, op := Op.move (Operand.tmp 7), type := 24, pos := "ref.go:150", after := #[], guard := none }) (v := ?_) rfl (by kernel_rfl) (by kernel_rfl) (by kernel_rfl) (fun _ _ _ h => h) (Or.inl ⟨by rfl, ?_⟩) (by assumption) ?_
              rotate_left 1
              · intro w' hSw; (try dsimp only at hSw); go_simp; try with_reducible rfl
              (try simp only [Act.put, List.setIfInBounds_toArray, List.set_cons_zero, List.set_cons_succ])
              refine wpAnyH_take (i := 1) (oi := { dst := some 96, op := Op.move (Operand.tmp 0), type := 50, pos := "ref.go:150", after := #[], guard := none }) (v := ?_) rfl (by kernel_rfl) (by kernel_rfl) (by kernel_rfl) (fun _ _ _ h => h) (Or.inl ⟨by rfl, ?_⟩) (by assumption) ?_
              rotate_left 1
              · intro w' hSw; (try dsimp only at hSw); go_simp; try with_reducible rfl
              (try simp only [Act.put, List.setIfInBounds_toArray, List.set_cons_zero, List.set_cons_succ])
              refine wpAnyH_take (i := 2) (oi := { dst := some 97, op := Op.move (Operand.tmp 8), type := 3, pos := "ref.go:150", after := #[], guard := none }) (v := ?_) rfl (by kernel_rfl) (by kernel_rfl) (by kernel_rfl) (fun _ _ _ h => h) (Or.inl ⟨by rfl, ?_⟩) (by assumption) ?_
              rotate_left 1
              · intro w' hSw; (try dsimp only at hSw); go_simp; try with_reducible rfl
              (try simp only [Act.put, List.setIfInBounds_toArray, List.set_cons_zero, List.set_cons_succ])
              refine wpAnyH_take (i := 5) (oi := { dst := some 100, op := Op.move (Operand.tmp 4), type := 73, pos := "ref.go:150", after := #[], guard := none }) (v := ?_) rfl (by kernel_rfl) (by kernel_rfl) (by kernel_rfl) (fun _ _ _ h => h) (Or.inl ⟨by rfl, ?_⟩) (by assumption) ?_
              rotate_left 1
              · intro w' hSw; (try dsimp only at hSw); go_simp; try with_reducible rfl
              (try simp only [Act.put, List.setIfInBounds_toArray, List.set_cons_zero, List.set_cons_succ])
              refine wpAnyH_take (i := 6) (oi := { dst := some 101, op := Op.move (Operand.tmp 8), type := 3, pos := "ref.go:150", after := #[], guard := none }) (v := ?_) rfl (by kernel_rfl) (by kernel_rfl) (by kernel_rfl) (fun _ _ _ h => h) (Or.inl ⟨by rfl, ?_⟩) (by assumption) ?_
              rotate_left 1
              · intro w' hSw; (try dsimp only at hSw); go_simp; try with_reducible rfl
              (try simp only [Act.put, List.setIfInBounds_toArray, List.set_cons_zero, List.set_cons_succ])
              refine wpAnyH_take (i := 3) (oi := { dst := some 98, op := Op.indexAddr 50 (Operand.tmp 96) (Operand.tmp 97), type := 0, pos := "ref.go:150", after := #[{ on := 1, ground := Ground.data }, { on := 2, ground := Ground.data }], guard := none }) (v := ?_) rfl (by kernel_rfl) (by kernel_rfl) (by kernel_rfl) (fun _ _ _ h => h) (Or.inl ⟨by rfl, ?_⟩) (by assumption) ?_
              rotate_left 1
              · intro w' hSw; (try dsimp only at hSw); go_simp; try with_reducible rfl
              (try simp only [Act.put, List.setIfInBounds_toArray, List.set_cons_zero, List.set_cons_succ])
              refine wpAnyH_take (i := 4) (oi := { dst := some 99, op := Op.load 24 (Operand.tmp 98), type := 24, pos := "ref.go:150", after := #[{ on := 3, ground := Ground.data }], guard := none }) (v := ?_) rfl (by kernel_rfl) (by kernel_rfl) (by kernel_rfl) (fun _ _ _ h => h) (Or.inl ⟨by rfl, ?_⟩) (by assumption) ?_
              rotate_left 1
              · intro w' hSw; (try dsimp only at hSw); go_simp; try with_reducible rfl
              (try simp only [Act.put, List.setIfInBounds_toArray, List.set_cons_zero, List.set_cons_succ])
              refine wpAnyH_take (i := 7) (oi := { dst := some 102, op := Op.indexAddr 73 (Operand.tmp 100) (Operand.tmp 101), type := 0, pos := "ref.go:150", after := #[{ on := 5, ground := Ground.data }, { on := 6, ground := Ground.data }], guard := none }) (v := ?_) rfl (by kernel_rfl) (by kernel_rfl) (by kernel_rfl) (fun _ _ _ h => h) (Or.inl ⟨by rfl, ?_⟩) (by assumption) ?_
              rotate_left 1
              · intro w' hSw; (try dsimp only at hSw); go_simp; try with_reducible rfl
              (try simp only [Act.put, List.setIfInBounds_toArray, List.set_cons_zero, List.set_cons_succ])
              refine wpAnyH_take (i := 8) (oi := { dst := some 103, op := Op.load 3 (Operand.tmp 102), type := 3, pos := "ref.go:150", after := #[{ on := 7, ground := Ground.data }], guard := none }) (v := ?_) rfl (by kernel_rfl) (by kernel_rfl) (by kernel_rfl) (fun _ _ _ h => h) (Or.inl ⟨by rfl, ?_⟩) (by assumption) ?_
              rotate_left 1
              · intro w' hSw; (try dsimp only at hSw); go_simp; try with_reducible rfl
              (try simp only [Act.put, List.setIfInBounds_toArray, List.set_cons_zero, List.set_cons_succ])
              refine wpAnyH_take (i := 9) (oi := { dst := some 104, op := Op.indexAddr 24 (Operand.tmp 99) (Operand.tmp 103), type := 0, pos := "ref.go:150", after := #[{ on := 4, ground := Ground.data }, { on := 8, ground := Ground.data }], guard := none }) (v := ?_) rfl (by kernel_rfl) (by kernel_rfl) (by kernel_rfl) (fun _ _ _ h => h) (Or.inl ⟨by rfl, ?_⟩) (by assumption) ?_
              rotate_left 1
              · intro w' hSw; (try dsimp only at hSw); go_simp; try with_reducible rfl
              (try simp only [Act.put, List.setIfInBounds_toArray, List.set_cons_zero, List.set_cons_succ])
              refine wpAnyH_take (i := 10) (oi := { dst := some 105, op := Op.load 40 (Operand.tmp 104), type := 40, pos := "ref.go:150", after := #[{ on := 9, ground := Ground.data }], guard := none }) (v := ?_) rfl (by kernel_rfl) (by kernel_rfl) (by kernel_rfl) (fun _ _ _ h => h) (Or.inl ⟨by rfl, ?_⟩) (by assumption) ?_
              rotate_left 1
              · intro w' hSw; (try dsimp only at hSw); go_simp; try with_reducible rfl
              (try simp only [Act.put, List.setIfInBounds_toArray, List.set_cons_zero, List.set_cons_succ])
              refine wpAnyH_ready (rs := [11]) (by kernel_rfl) (by simp) ?_
              refine AllReadyH.cons (o := { dst := some 106, op := Op.buildSlice 24 1 #[(0, Operand.tmp 105)], type := 24, pos := "ref.go:150", after := #[{ on := 10, ground := Ground.data }], guard := none }) rfl (fun K hK => ?_) AllReadyH.nil
              go_simp
              refine hK.out _ _ ?_ (fun hHeld => ?_)
              · (try dsimp only)
                (refine ⟨?_, ?_, ?_, ?_, ?_⟩ <;> first | assumption | (go_simp; done))
              clear hK K
              (try simp only [Act.put, List.setIfInBounds_toArray, List.set_cons_zero, List.set_cons_succ])
              refine wpAnyH_ready (rs := [12]) (by kernel_rfl) (by simp) ?_
              refine AllReadyH.cons (o := { dst := some 107, op := Op.call { callee := Callee.builtin Builtin.append, args := #[Operand.tmp 95, Operand.tmp 106], argTypes := #[24, 24] }, type := 24, pos := "ref.go:150", after := #[{ on := 0, ground := Ground.data }, { on := 11, ground := Ground.data }], guard := none }) rfl (fun K hK => ?_) AllReadyH.nil
              rw [if_pos (by rfl)]
              refine wp_ov wy.drew _ _ rfl (w.heap.size + 1) _ acc (Fl.mk xd xc xa) rfl rfl ?_ (by omega) ?_ ?_
              · exact OD.out.alloc _
              · exact Nat.le_trans ZD.out (by simp)
              intro v' w6 ho hg
              have O6 := Lib.hid ho
              have N6 := Lib.hid (NA.out.grown hg (Nat.le_trans ZD.out (by simp)) (fun k e => (OD.out.lt k e).1))
              have z6 := hg.size
              obtain ⟨v0, v1, v2, v3, v4⟩ := CE.out w6 N6.out
              clear ho hg
              refine hK.out _ _ ?_ (fun hHeld => ?_)
              · (try dsimp only)
                (refine ⟨?_, ?_, ?_, ?_, ?_⟩ <;> first | assumption | (go_simp; done))
              clear hK K
              (try simp only [Act.put, List.setIfInBounds_toArray, List.set_cons_zero, List.set_cons_succ])
              refine wpAnyH_take (i := 13) (oi := { dst := some 7, op := Op.assign (Operand.tmp 107), type := 24, pos := "ref.go:150", after := #[{ on := 12, ground := Ground.data }, { on := 12, ground := Ground.chain }, { on := 0, ground := Ground.phase }, { on := 1, ground := Ground.phase }, { on := 2, ground := Ground.phase }, { on := 3, ground := Ground.phase }, { on := 4, ground := Ground.phase }, { on := 5, ground := Ground.phase }, { on := 6, ground := Ground.phase }, { on := 7, ground := Ground.phase }, { on := 8, ground := Ground.phase }, { on := 9, ground := Ground.phase }, { on := 10, ground := Ground.phase }, { on := 11, ground := Ground.phase }, { on := 12, ground := Ground.phase }], guard := none }) (v := ?_) rfl (by kernel_rfl) (by kernel_rfl) (by kernel_rfl) (fun _ _ _ h => h) (Or.inl ⟨by rfl, ?_⟩) (by assumption) ?_
              rotate_left 1
              · intro w' hSw; (try dsimp only at hSw); go_simp; try with_reducible rfl
              (try simp only [Act.put, List.setIfInBounds_toArray, List.set_cons_zero, List.set_cons_succ])
              refine wpAnyH_done (by kernel_rfl) ?_ _
              have f6 := F1.out w6 N6.out
              go_wp2
              have E7 := Lib.hid (p := At (w6.setCell ⟨w.heap.size, bb, none⟩ (.int .i64 ((p : Int) + 1))) w.heap.size (ps.set bb (p + 1))) (At.set (v := p + 1) (A2.out.later N6.out (Nat.lt_succ_self _) N6.out.size) PLN.out)
              have O7 := Lib.hid (p := OV (w6.setCell ⟨w.heap.size, bb, none⟩ (.int .i64 ((p : Int) + 1))) (w.heap.size + 1) v' (acc ++ [Fl.mk xd xc xa])) (OV.set O6.out (Nat.lt_succ_self _))
              have B7 := Lib.hid (p := Below w.heap.size w (w6.setCell ⟨w.heap.size, bb, none⟩ (.int .i64 ((p : Int) + 1)))) ((BX.out.trans (N6.out.mono (Nat.le_succ _))).setCell (p := ⟨w.heap.size, bb, none⟩) (Nat.le_refl _) _)
              have L7 := O6.out.len
              have z7 : w.heap.size + 1 ≤ (w6.setCell ⟨w.heap.size, bb, none⟩ (.int .i64 ((p : Int) + 1))).heap.size := by have := N6.out.size; simp; omega
              go_roundw
              case rel => exact ⟨_, _, ST.out, E7.out, O7.out, B7.out, z7⟩
              case measure => rw [L7, LE, List.length_append]; simp; omega
end Go.Proofs.Ythhacbelbkkcmaa
