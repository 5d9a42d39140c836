/-
  WALK: FlowBack.
-/
import Derived.Test.YtmdgfcldohmjdaaDoorWHeads2
import Derived.Test.YtmdgfcldohmjdaaDoorWRight
namespace Go.Proofs.YtmdgfcldohmjdaaDoor
open Go.RowKit
set_option linter.unusedVariables false
set_option linter.unusedSimpArgs false

/-- The right flows of a list. -/
def good (fs : List Fl) : List Fl := fs.filter fun f => decide (valI f = 0)
theorem good_next {fs : List Fl} {k : Nat} (hk : k < fs.length) : good (fs.take (k + 1)) = good (fs.take k) ++ if valI (fs.getD k default) = 0 then [fs.getD k default] else [] := by
  have e : fs[k]? = some (fs.getD k default) := by simp [List.getD, hk]
  unfold good
  rw [List.take_add_one, e, List.filter_append]
  congr 1
  simp only [Option.toList_some]
  by_cases h : valI (fs.getD k default) = 0
  · rw [if_pos h, List.filter_cons_of_pos (by rw [decide_eq_true h])]; rfl
  · rw [if_neg h, List.filter_cons_of_neg (by rw [decide_eq_false h]; simp)]; rfl
theorem good_len (fs : List Fl) (k : Nat) : (good (fs.take k)).length ≤ k := by
  refine Nat.le_trans (List.length_filter_le _ _) ?_
  rw [List.length_take]; omega
theorem good_mem {fs : List Fl} {k : Nat} {f : Fl} (h : f ∈ good (fs.take k)) : valI f = 0 ∧ f ∈ fs := by
  unfold good at h
  rw [List.mem_filter] at h
  exact ⟨of_decide_eq_true h.2, List.mem_of_mem_take h.1⟩
theorem print_good (a : Option Addr) (n cap : Nat) (gs : List Fl) (w : World) (h : FL w a n gs) (h25 : n ≤ 25000) (hg : ∀ f ∈ gs, valI f = 0 ∧ f.wf) (hP : Pw w.heap.size w) :
    Calls Tryd.prog 10 #[.slice a n cap] w fun e w' => e = .returned (.tuple #[.string ⟨(textL gs).toArray⟩, .int .i64 0]) ∧ Below w.heap.size w w' := by
  refine (print_any a n cap gs w h (fun f hf => (hg f hf).2) hP).mono ?_
  rintro e w' ⟨⟨t, er, rfl, hS⟩, hb⟩
  refine ⟨?_, hb⟩
  have b0 : badI gs = 0 := bad_none _ (fun i hi => by
    have : gs.getD i default ∈ gs := by rw [show gs.getD i default = gs[i] by simp [List.getD, hi]]; exact List.getElem_mem hi
    exact (hg _ this).1)
  have sh := text_short (gs := gs) (fun f hf => ⟨(hg f hf).1, wf_bd (hg f hf).2⟩)
  rcases hS with ⟨h1, _⟩ | ⟨_, h1, _⟩ | ⟨_, _, rfl, rfl⟩
  · exact absurd b0 h1
  · rw [h.1] at sh; omega
  · rfl
theorem parse_good (gs : List Fl) (n : Nat) (hn : gs.length = n) (h25 : n ≤ 25000) (hg : ∀ f ∈ gs, valI f = 0 ∧ f.wf) (s : ByteArray) (hs : s.data.toList = textL gs) (w : World) :
    Calls Tryd.prog 9 #[.string s] w fun e w' => ∃ x c, e = .returned (.tuple #[.slice x n c, .int .i64 0, .int .i64 0]) ∧ Below w.heap.size w w' ∧ FL w' x n gs := by
  have sh := text_short (gs := gs) (fun f hf => ⟨(hg f hf).1, wf_bd (hg f hf).2⟩)
  have sz : s.size ≤ 1048576 := by rw [size_list, hs]; omega
  refine (parse_any s w (by unfold maxLen; omega)).mono ?_
  rintro e w' ⟨⟨v, gs', p, er, rfl, hl, ho, hR⟩, hb⟩
  rcases hR with ⟨h1, _⟩ | ⟨_, hR⟩
  · omega
  · have back := run_back (s := s) gs [] [] (fun f hf => ⟨(hg f hf).1, wf_bd (hg f hf).2⟩) (by rw [hs]; rfl)
    rw [List.nil_append] at back
    obtain ⟨rfl, rfl, rfl⟩ := run_one hR back
    obtain ⟨x, c, rfl, hf⟩ := fl_of_own ho (by omega)
    rw [hn] at hf
    exact ⟨x, c, by rw [hn]; rfl, hb, hf⟩
set_option maxRecDepth 100000 in
set_option maxHeartbeats 2000000 in
theorem flowBack_walk (hsort : SortsN) (a : Option Addr) (n cap : Nat) (fs : List Fl) (w : World) (h : FL w a n fs) (hw : ∀ f ∈ fs, f.wf) (hP : Pw w.heap.size w) :
    Calls Tryd.prog 4 #[.slice a n cap] w fun e w' => e = .returned (.bool true) ∧ Below w.heap.size w w' := by
  have HL := Lib.hid h.1
  have hn := h.2.1
  have H := Lib.hid h
  have KH := Lib.hid (heads_any hsort w hP)
  have HP := Lib.hid (p := ∀ W, Below w.heap.size w W → Pw w.heap.size W) (fun W b => Pw.later hP b)
  have GN := Lib.hid (p := ∀ k, k < n → good (fs.take (k + 1)) = good (fs.take k) ++ if valI (fs.getD k default) = 0 then [fs.getD k default] else []) (fun k hk => good_next (by rw [HL.out]; exact hk))
  have GW := Lib.hid (p := ∀ k, ∀ f ∈ good (fs.take k), valI f = 0 ∧ f.wf) (fun k f hf => ⟨(good_mem hf).1, hw f (good_mem hf).2⟩)
  have FW := Lib.hid (p := ∀ i, i < n → (fs.getD i default).c.size ≤ maxLen) (fun i hi => by
    have hi' : i < fs.length := by rw [HL.out]; exact hi
    have : fs.getD i default ∈ fs := by rw [show fs.getD i default = fs[i] by simp [List.getD, hi']]; exact List.getElem_mem hi'
    exact (hw _ this).2.1)
  have GL := Lib.hid (p := ∀ k, (good (fs.take k)).length ≤ k) (fun k => good_len fs k)
  clear h hw hP
  go_enter Tryd.func4, Tryd.ntmps4
  go_wp2_with fail
  go_at_call 8
  refine KH.out.mono ?_
  rintro e w1 ⟨rfl, b1⟩
  have B1 := Lib.hid b1
  have F1 := Lib.hid (H.out.later b1)
  clear b1
  go_wp2
  go_loopw [3, 4] (fun x t wr => ∃ (i : Nat), i ≤ n ∧ i ≤ 25000 ∧ t = .int .i64 (i : Int) ∧ wr.ownsRow w1.heap.size 32 3 x (good (fs.take i)).length (fcs (good (fs.take i))) ∧ Below w1.heap.size w1 wr) (fun _ t _ => n - (intOf t).toNat)
  case atStart => exact ⟨0, by omega, by omega, rfl, World.ownsRow_nil _ _ _ _, Below.refl _ _⟩
  case round =>
    obtain ⟨i, hi, h25, rfl, hO, hB⟩ := hrel
    rename World => wr
    have OO := Lib.hid hO
    have BB := Lib.hid hB
    have gl := GL.out i
    have SZ := Lib.hid hB.size
    by_cases hlt : i < n ∧ i < 25000
    · obtain ⟨b, o, rfl, hb, hc⟩ : ∃ b o, a = some ⟨b, o, none⟩ ∧ b < w1.heap.size ∧ ∀ i, i < n → FC w1 b (o + i * 3) (fs.getD i default) := by
        rcases F1.out.2.2 with h | h
        · omega
        · exact h
      have CC := Lib.hid (p := ∀ W, Below w1.heap.size w1 W → FC W b (o + i * 3) (fs.getD i default)) (fun W bb => (hc i hlt.1).later bb hb)
      have GNi := Lib.hid (GN.out i hlt.1)
      have FWi := Lib.hid (FW.out i hlt.1)
      obtain ⟨c0, c1, c2⟩ := CC.out wr hB
      generalize fs.getD i default = f at *
      obtain ⟨fd, fc, fa⟩ := f
      simp only at c0 c1 c2
      have kc : (i : Int) < (n : Int) := by omega
      have kc2 : decide ((i : Int) < (n : Int)) = true := decide_eq_true kc
      have kc3 : (i : Int) < 25000 := by omega
      have kw : IntKind.i64.wrap ((i : Int) + 1) = (i : Int) + 1 := by simp [IntKind.wrap, IntKind.bits, IntKind.signed]; omega
      have KR := Lib.hid (fun W => right_any fd fa fc W FWi.out)
      clear hc hO hB
      by_cases hv : valI ⟨fd, fc, fa⟩ = 0
      · rw [decide_eq_true hv] at KR
        have G1 := Lib.hid (p := good (fs.take (i + 1)) = good (fs.take i) ++ [Fl.mk fd fc fa]) (by rw [GNi.out, if_pos hv])
        clear hv
        generalize good (fs.take i) = gs at *
        go_wp2_with fail
        go_at_call 11
        refine (KR.out _).mono ?_
        rintro e w2 ⟨rfl, b2⟩
        have B2 := Lib.hid (BB.out.trans (b2.mono SZ.out))
        have O2 := Lib.hid (World.ownsRow.kept OO.out (⟨b2.os, b2.tape, b2.output, b2.size, fun k hk _ => b2.block k hk⟩ : wr.grownBy w2 none) (Classical.em _))
        obtain ⟨c0', c1', c2'⟩ := CC.out w2 B2.out
        simp only at c0' c1' c2'
        clear b2 c0 c1 c2
        go_wp2_with (at_builtin; refine wp_flow _ fd fa fc rfl _ _ rfl w1.heap.size _ gs rfl rfl O2.out (by omega) B2.out.size ?_; intro v' w3 ho hg; have O3 := Lib.hid ho; have B3 := Lib.hid ((B2.out.alloc B2.out.size _).grown hg (Nat.le_trans B2.out.size (by simp)) (fun k e => (O2.out.lt k e).1)); clear ho hg)
        go_roundw
        case rel => exact ⟨i + 1, by omega, by omega, by simp, by rw [G1.out]; exact O3.out, B3.out⟩
        case measure => simp [intOf]; omega
      · rw [decide_eq_false hv] at KR
        have G1 := Lib.hid (p := good (fs.take (i + 1)) = good (fs.take i)) (by rw [GNi.out, if_neg hv, List.append_nil])
        clear hv
        go_wp2_with fail
        go_at_call 11
        refine (KR.out _).mono ?_
        rintro e w2 ⟨rfl, b2⟩
        have B2 := Lib.hid (BB.out.trans (b2.mono SZ.out))
        have O2 := Lib.hid (World.ownsRow.kept OO.out (⟨b2.os, b2.tape, b2.output, b2.size, fun k hk _ => b2.block k hk⟩ : wr.grownBy w2 none) (Classical.em _))
        clear b2 c0 c1 c2
        go_wp2
        go_roundw
        case rel => exact ⟨i + 1, by omega, by omega, by simp, by rw [G1.out]; exact O2.out, B2.out⟩
        case measure => simp [intOf]; omega
    · have GWi := Lib.hid (GW.out i)
      obtain ⟨A, C, rfl, hf⟩ := fl_of_own hO (by omega)
      generalize good (fs.take i) = gs at *
      obtain ⟨m, hm⟩ : ∃ m, gs.length = m := ⟨_, rfl⟩
      rw [hm] at hf gl ⊢
      have FM := Lib.hid hf
      have BW := Lib.hid (B1.out.trans (hB.mono B1.out.size))
      have KP := Lib.hid (print_good A m C gs wr hf (by omega) GWi.out (fun W bb => HP.out W (BW.out.trans (bb.mono BW.out.size)) W (Below.refl _ _)))
      have KQ := Lib.hid (fun W => parse_good gs m hm (by omega) GWi.out ⟨(textL gs).toArray⟩ (by simp) W)
      obtain ⟨st, hst⟩ : ∃ st : ByteArray, ⟨(textL gs).toArray⟩ = st := ⟨_, rfl⟩
      rw [hst] at KP KQ
      clear hO hB hf hst
      have e1 : ¬ ((i : Int) < (n : Int) ∧ (i : Int) < 25000) := by omega
      by_cases hin : i < n
      · have kc : decide ((i : Int) < (n : Int)) = true := decide_eq_true (by omega)
        have kc' : (i : Int) < (n : Int) := by omega
        have kc3 : ¬ (i : Int) < 25000 := by omega
        go_wp2_with fail
        go_at_call 10
        refine KP.out.mono ?_
        rintro e w2 ⟨rfl, b2⟩
        have BW2 := Lib.hid (BW.out.trans (b2.mono BW.out.size))
        have F2 := Lib.hid (FM.out.later b2)
        clear b2
        go_wp2_with fail
        go_at_call 9
        refine (KQ.out _).mono ?_
        rintro e w3 ⟨x, c, rfl, b3, f3⟩
        have BW3 := Lib.hid (BW2.out.trans (b3.mono BW2.out.size))
        have F3 := Lib.hid (F2.out.later b3)
        have G3 := Lib.hid f3
        clear b3 f3
        go_wp2_with fail
        go_at_call 12
        refine (same_fl _ _ m _ _ gs _ F3.out G3.out).mono ?_
        rintro e w4 ⟨rfl, b4⟩
        have BW4 := Lib.hid (BW3.out.trans (b4.mono BW3.out.size))
        clear b4
        go_wp2
        go_ret
        exact ⟨rfl, BW4.out⟩
      · have kc : decide ((i : Int) < (n : Int)) = false := decide_eq_false (by omega)
        have kc' : ¬ (i : Int) < (n : Int) := by omega
        go_wp2_with fail
        go_at_call 10
        refine KP.out.mono ?_
        rintro e w2 ⟨rfl, b2⟩
        have BW2 := Lib.hid (BW.out.trans (b2.mono BW.out.size))
        have F2 := Lib.hid (FM.out.later b2)
        clear b2
        go_wp2_with fail
        go_at_call 9
        refine (KQ.out _).mono ?_
        rintro e w3 ⟨x, c, rfl, b3, f3⟩
        have BW3 := Lib.hid (BW2.out.trans (b3.mono BW2.out.size))
        have F3 := Lib.hid (F2.out.later b3)
        have G3 := Lib.hid f3
        clear b3 f3
        go_wp2_with fail
        go_at_call 12
        refine (same_fl _ _ m _ _ gs _ F3.out G3.out).mono ?_
        rintro e w4 ⟨rfl, b4⟩
        have BW4 := Lib.hid (BW3.out.trans (b4.mono BW3.out.size))
        clear b4
        go_wp2
        go_ret
        exact ⟨rfl, BW4.out⟩
theorem flowBack_go (hsort : SortsN) (a : Option Addr) (n cap : Nat) (fs : List Fl) (w : World) (h : FL w a n fs) (hw : ∀ f ∈ fs, f.wf) (hP : Pw w.heap.size w) :
    Calls Tryd.prog 4 #[.slice a n cap] w fun e w' => e = .returned (.bool true) ∧ Below w.heap.size w w' := flowBack_walk hsort a n cap fs w h hw hP
end Go.Proofs.YtmdgfcldohmjdaaDoor
