/-
  WALK: FlowSums.
-/
import Derived.Test.YtmdgfcldohmjdaaDoorWFCounted
import Derived.Test.YtmdgfcldohmjdaaDoorWHeads2
import Derived.Test.YtmdgfcldohmjdaaDoorWSameD
import Derived.Test.YtmdgfcldohmjdaaDoorWFTotals
import Derived.Deep.RegionHeld3
namespace Go.Proofs.YtmdgfcldohmjdaaDoor
open Go.RowKit
set_option linter.unusedVariables false
set_option linter.unusedSimpArgs false

theorem get_mem {α : Type} [Inhabited α] {l : List α} {i : Nat} (h : i < l.length) : l.getD i default ∈ l := by
  rw [show l.getD i default = l[i] by simp [List.getD, h]]; exact List.getElem_mem h
/-- Net, its answer told ahead. -/
theorem net_told (hsort : SortsN) {ms : List Fl} {A : List (DC × Int)} (hA : nets ms = some A) (N0 : List Fl) (hN : N0 = exsort fLt (A.map fzN)) (hl : N0.length ≤ 4398046511000) (hw : ∀ f ∈ ms, inR f.a ∧ f.c.size ≤ maxLen ∧ inR f.d) (a : Option Addr) (n cap : Nat) (w : World) (h : FL w a n ms) :
    Calls Tryd.prog 15 #[.slice a n cap] w fun e w' => ∃ x c, e = .returned (.tuple #[.slice x N0.length c, .int .i64 0]) ∧ Below w.heap.size w w' ∧ FL w' x N0.length N0 := by
  refine (net_any a n cap ms w h (fun i hi => hw _ (get_mem (by rw [h.1]; exact hi))) hsort).mono ?_
  rintro e w' ⟨v, q, rfl, h1, h2⟩
  rcases h2 with ⟨h3, _⟩ | ⟨A', ts, h3, rfl, hp, hs, ho⟩
  · rw [hA] at h3; cases h3
  · rw [hA] at h3
    injection h3 with h3
    subst h3
    have e1 := exsort_only fLt (fun a b c h1 h2 => fLt_ntrans h2 h1) (fun a b h => fLt_asymm h) hp hs (fun a b _ _ h1 h2 => fLt_anti h1 h2)
    rw [← hN] at e1
    subst e1
    obtain ⟨x, c, rfl, hf⟩ := fl_of_own ho hl
    exact ⟨x, c, rfl, h1, hf⟩
theorem ex_facts {ms : List Fl} {A : List (DC × Int)} (hA : nets ms = some A) (hb : asum (ms.map kpF) ≤ 4611686018427387904) : NetF ms (exsort fLt (A.map fzN)) :=
  net_facts hA hb (exsort_perm fLt _ _ rfl) (exsort_sorted fLt (fun a b c h1 h2 => fLt_ntrans h2 h1) (fun a b h => fLt_asymm h) _ _ rfl)
theorem ex_same {ms t : List Fl} {A B : List (DC × Int)} (hp : ms.Perm t) (hb : asum (ms.map kpF) ≤ 4611686018427387904) (hA : nets ms = some A) (hB : nets t = some B) : exsort fLt (B.map fzN) = exsort fLt (A.map fzN) :=
  net_same hp hb hA hB (exsort_perm fLt _ _ rfl) (exsort_sorted fLt (fun a b c h1 h2 => fLt_ntrans h2 h1) (fun a b h => fLt_asymm h) _ _ rfl) (exsort_perm fLt _ _ rfl) (exsort_sorted fLt (fun a b c h1 h2 => fLt_ntrans h2 h1) (fun a b h => fLt_asymm h) _ _ rfl)
/-- What is known of the small list and of its netted one. -/
structure SmN (ms ns : List Fl) : Prop where
  fac : NetF ms ns
  abs : asum (ms.map kpF) ≤ 1152921504606846976
  wfm : ∀ f ∈ ms, inR f.a ∧ f.c.size ≤ maxLen ∧ inR f.d
  len : ms.length ≤ 1048576
  net : ∃ A, nets ms = some A ∧ ns = exsort fLt (A.map fzN)
theorem SmN.bd {ms ns : List Fl} (h : SmN ms ns) : asum (ms.map kpF) ≤ 4611686018427387904 := Nat.le_trans h.abs (by omega)
theorem SmN.wfn {ms ns : List Fl} (h : SmN ms ns) : ∀ f ∈ ns, inR f.a ∧ f.c.size ≤ maxLen ∧ inR f.d := fun f hf => by
  obtain ⟨⟨e, he, q⟩, s⟩ := h.fac.sum f hf
  obtain ⟨m, hm, rfl⟩ := List.mem_map.1 he
  have q' : (m.d, m.c) = (f.d, f.c) := q
  injection q' with q1 q2
  obtain ⟨w1, w2, w3⟩ := h.wfm m hm
  refine ⟨?_, by rw [← q2]; exact w2, by rw [← q1]; exact w3⟩
  have := ksum_abs (f.d, f.c) (ms.map kpF)
  have := h.abs
  rw [← s] at *
  unfold inR
  omega
theorem smN_of {fs : List Fl} (hw : ∀ f ∈ fs, f.wf) : ∃ ns, SmN ((fs.take 1048576).map smF) ns := by
  have ln : ((fs.take 1048576).map smF).length ≤ 1048576 := by rw [List.length_map, List.length_take]; omega
  have ab : asum (((fs.take 1048576).map smF).map kpF) ≤ 1152921504606846976 := by
    have := asum_small (fs.take 1048576)
    rw [List.length_map] at ln
    omega
  obtain ⟨A, hA⟩ := nets_yes (ms := (fs.take 1048576).map smF) (by omega)
  refine ⟨exsort fLt (A.map fzN), ex_facts hA (by omega), ab, fun f hf => ?_, ln, A, hA, rfl⟩
  obtain ⟨m, hm, rfl⟩ := List.mem_map.1 hf
  obtain ⟨w1, w2, w3⟩ := hw m (List.mem_of_mem_take hm)
  have := smF_abs m
  exact ⟨by unfold inR; omega, w2, wf_inR w1⟩
theorem khas_app {k : DC} {l r : List (DC × Int)} : khas k (l ++ r) ↔ khas k l ∨ khas k r := by
  unfold khas
  constructor
  · rintro ⟨e, he, q⟩
    rcases List.mem_append.1 he with h | h
    · exact .inl ⟨e, h, q⟩
    · exact .inr ⟨e, h, q⟩
  · rintro (⟨e, he, q⟩ | ⟨e, he, q⟩)
    · exact ⟨e, List.mem_append_left _ he, q⟩
    · exact ⟨e, List.mem_append_right _ he, q⟩
/-- The sums as the inner loop gathers them. -/
structure Gat (ms : List Fl) (mm : Nat) (yd : Int) (yc : ByteArray) (ya : Int) (sf : Nat → Int) (pf : Nat → Bool) : Prop where
  s0 : sf 0 = 0
  p0 : pf 0 = false
  yes : ∀ k, k < mm → (ms.getD k default).d = yd ∧ (ms.getD k default).c = yc → sf (k + 1) = sf k + (ms.getD k default).a ∧ pf (k + 1) = true
  no : ∀ k, k < mm → ¬ ((ms.getD k default).d = yd ∧ (ms.getD k default).c = yc) → sf (k + 1) = sf k ∧ pf (k + 1) = pf k
  fin : sf mm = ya ∧ pf mm = true
  bd : ∀ k, (sf k).natAbs ≤ 1152921504606846976
  bm : ∀ k, k < mm → (ms.getD k default).a.natAbs ≤ 1152921504606846976
theorem asum_take (l : List (DC × Int)) (k : Nat) : asum (l.take k) ≤ asum l := by
  have := asum_app (l.take k) (l.drop k)
  rw [List.take_append_drop] at this
  omega
theorem asum_mem {l : List (DC × Int)} {e : DC × Int} (h : e ∈ l) : e.2.natAbs ≤ asum l := by
  induction l with
  | nil => cases h
  | cons x l ih =>
    simp only [asum]
    rcases List.mem_cons.1 h with rfl | h
    · omega
    · have := ih h; omega
open Classical in
theorem gat_of {ms ns : List Fl} {mm : Nat} (hS : SmN ms ns) (hm : ms.length = mm) {y : Fl} (hy : y ∈ ns) : ∃ sf pf, Gat ms mm y.d y.c y.a sf pf := by
  refine ⟨fun k => ksum (y.d, y.c) ((ms.take k).map kpF), fun k => decide (khas (y.d, y.c) ((ms.take k).map kpF)), ?_⟩
  have nx : ∀ k, k < mm → (ms.take (k + 1)).map kpF = (ms.take k).map kpF ++ [kpF (ms.getD k default)] := fun k hk => by
    have e : ms[k]? = some (ms.getD k default) := by simp [List.getD, show k < ms.length by omega]
    rw [List.take_add_one, e]; simp
  obtain ⟨f1, f2⟩ := hS.fac.sum y hy
  refine ⟨by simp [ksum], by simp [khas], fun k hk q => ?_, fun k hk q => ?_, ?_, fun k => ?_, fun k hk => ?_⟩
  · rw [nx k hk, ksum_app]
    have q' : (kpF (ms.getD k default)).1 = (y.d, y.c) := by show ((ms.getD k default).d, (ms.getD k default).c) = _; rw [q.1, q.2]
    refine ⟨?_, decide_eq_true (khas_app.2 (.inr ⟨_, List.mem_singleton.2 rfl, q'⟩))⟩
    simp only [ksum, if_pos q']
    show _ + ((ms.getD k default).a + 0) = _
    omega
  · have q' : ¬ (kpF (ms.getD k default)).1 = (y.d, y.c) := fun r => q (by have r' : ((ms.getD k default).d, (ms.getD k default).c) = (y.d, y.c) := r; injection r' with r1 r2; exact ⟨r1, r2⟩)
    rw [nx k hk, ksum_app]
    refine ⟨by simp only [ksum, if_neg q']; omega, ?_⟩
    congr 1
    refine propext ⟨fun r => ?_, fun r => khas_app.2 (.inl r)⟩
    rcases khas_app.1 r with r | ⟨e, he, r⟩
    · exact r
    · rw [List.mem_singleton.1 he] at r; exact absurd r q'
  · rw [List.take_of_length_le (by omega)]
    exact ⟨f2.symm, decide_eq_true f1⟩
  · have a1 := ksum_abs (y.d, y.c) ((ms.take k).map kpF)
    rw [List.map_take] at a1
    have a2 := asum_take (ms.map kpF) k
    have a3 := hS.abs
    rw [List.map_take]
    omega
  · have a1 := asum_mem (l := ms.map kpF) (e := kpF (ms.getD k default)) (List.mem_map.2 ⟨_, get_mem (by omega), rfl⟩)
    have a3 := hS.abs
    have : (kpF (ms.getD k default)).2 = (ms.getD k default).a := rfl
    rw [this] at a1
    omega
theorem setAt_shortT (k : ByteArray) (v : Int) : ∀ l : List (ByteArray × Int), (setAt k v l).length ≤ l.length + 1
  | [] => by simp [setAt]
  | e :: l => by
    unfold setAt
    have := setAt_shortT k v l
    split <;> simp <;> omega
theorem tally_shortT {fits : Int → Bool} : ∀ {l acc out : List (ByteArray × Int)}, tally fits acc l = some out → out.length ≤ acc.length + l.length
  | [], acc, out, h => by
    simp only [tally] at h
    injection h with h
    subst h
    simp
  | e :: l, acc, out, h => by
    simp only [tally] at h
    split at h
    · have := tally_shortT h
      have := setAt_shortT e.1 ((sumAt e.1 acc).getD 0 + e.2) acc
      simp only [List.length_cons]
      omega
    · cases h
/-- Totals, told ahead. -/
theorem tot_told (hsT : SortsT) {l : List Fl} {A : List (ByteArray × Int)} (hA : tots l = some A) (hl : l.length ≤ 4398046511000) (hw : ∀ f ∈ l, inR f.a ∧ f.c.size ≤ maxLen ∧ inR f.d) (a : Option Addr) (n cap : Nat) (w : World) (h : FL w a n l) :
    Calls Tryd.prog 17 #[.slice a n cap] w fun e w' => ∃ x c ts, e = .returned (.tuple #[.slice x ts.length c, .int .i64 0]) ∧ Below w.heap.size w w' ∧ ts.Perm A ∧ ts.Pairwise (fun x y => sLt y.1 x.1 = false) ∧ TC w' x ts ∧ ts.length ≤ 4398046511000 := by
  refine (totals_any a n cap l w h (fun i hi => by have := hw _ (get_mem (l := l) (i := i) (by rw [h.1]; exact hi)); exact ⟨this.1, this.2.1⟩) hsT).mono ?_
  rintro e w' ⟨v, q, rfl, h1, h2⟩
  rcases h2 with ⟨h3, _⟩ | ⟨A', ts, h3, rfl, hp, hs, ho⟩
  · rw [hA] at h3; cases h3
  · rw [hA] at h3
    injection h3 with h3
    subst h3
    obtain ⟨x, c, rfl, hf⟩ := tc_of_own ho
    refine ⟨x, c, ts, rfl, h1, hp, hs, hf, ?_⟩
    have l1 := hp.length_eq
    have l2 := tally_shortT (show tally fitB [] _ = some A from hA)
    simp only [List.length_nil, List.length_map] at l2
    omega
theorem rev_take {ms : List Fl} {k : Nat} (hk : k < ms.length) : ms.reverse.take (k + 1) = ms.reverse.take k ++ [ms.getD (ms.length - 1 - k) default] := by
  have e : ms.reverse[k]? = some (ms.getD (ms.length - 1 - k) default) := by
    rw [List.getElem?_reverse hk]
    simp [List.getD, show ms.length - 1 - k < ms.length by omega]
  rw [List.take_add_one, e]; simp
set_option maxRecDepth 100000 in
set_option maxHeartbeats 8000000 in
theorem flowSums_walk (hsort : SortsN) (hsT : SortsT) (a : Option Addr) (n cap : Nat) (fs : List Fl) (w : World) (h : FL w a n fs) (hw : ∀ f ∈ fs, f.wf) (hP : Pw w.heap.size w) :
    Calls Tryd.prog 6 #[.slice a n cap] w fun e w' => e = .returned (.bool true) ∧ Below w.heap.size w w' := by
  have H := Lib.hid h
  have KH := Lib.hid (heads_any hsort w hP)
  have KS := Lib.hid (fun W (h : FL W a n fs) => small_any a n cap fs W h)
  obtain ⟨ns, hS⟩ := smN_of hw
  generalize (fs.take 1048576).map smF = ms at *
  obtain ⟨A, hA, hE⟩ := hS.net
  have SS := Lib.hid hS
  obtain ⟨mm, hmm⟩ : ∃ mm, ms.length = mm := ⟨_, rfl⟩
  obtain ⟨nn, hnn⟩ : ∃ nn, ns.length = nn := ⟨_, rfl⟩
  have m20 : mm ≤ 1048576 := by rw [← hmm]; exact hS.len
  have nm : nn ≤ mm := by rw [← hmm, ← hnn]; exact hS.fac.len
  have KN := Lib.hid (fun X C W (h : FL W X mm ms) => net_told hsort hA ns hE (by omega) hS.wfm X mm C W h)
  rw [hnn] at KN
  obtain ⟨B, hBn⟩ := nets_yes (ms := ms.reverse) (by rw [asum_perm ((List.reverse_perm ms).map kpF)]; exact hS.bd)
  have hE' : ns = exsort fLt (B.map fzN) := by rw [hE]; exact (ex_same (List.reverse_perm ms).symm hS.bd hA hBn).symm
  have KU := Lib.hid (fun X C W (h : FL W X mm ms.reverse) => net_told hsort hBn ns hE' (by omega) (fun f hf => hS.wfm f (List.mem_reverse.1 hf)) X mm C W h)
  rw [hnn] at KU
  obtain ⟨Tm, hTm⟩ := tots_yes (ms := ms) (by rw [asum_ct]; exact hS.bd)
  obtain ⟨Tn, hTn⟩ := tots_yes (ms := ns) (Nat.le_trans hS.fac.abs hS.bd)
  have KTm := Lib.hid (fun X C W (h : FL W X mm ms) => tot_told hsT hTm (by omega) hS.wfm X mm C W h)
  have KTn := Lib.hid (fun X C W (h : FL W X nn ns) => tot_told hsT hTn (by omega) hS.wfn X nn C W h)
  have TS := Lib.hid (p := ∀ ts us : List (ByteArray × Int), ts.Perm Tm → ts.Pairwise (fun x y => sLt y.1 x.1 = false) → us.Perm Tn → us.Pairwise (fun x y => sLt y.1 x.1 = false) → us = ts) (fun ts us t1 t2 u1 u2 => tot_same hS.fac hS.bd hTm hTn t1 t2 u1 u2)
  have FR := Lib.hid (p := ∀ W B v, W.ownsRow B 32 3 v (ms.reverse.take mm).length (fcs (ms.reverse.take mm)) → ∃ x c, v = .slice x mm c ∧ FL W x mm ms.reverse) (fun W B v o => by
    have e : ms.reverse.take mm = ms.reverse := List.take_of_length_le (by rw [List.length_reverse, hmm]; exact Nat.le_refl _)
    rw [e] at o
    obtain ⟨x, c, q, f⟩ := fl_of_own o (by rw [List.length_reverse]; omega)
    rw [List.length_reverse, hmm] at q f
    exact ⟨x, c, q, f⟩)
  have RT := Lib.hid (p := ∀ k, k < mm → ms.reverse.take (k + 1) = ms.reverse.take k ++ [ms.getD (mm - 1 - k) default]) (fun k hk => by rw [← hmm]; exact rev_take (by omega))
  have KC9 := Lib.hid (p := ∀ W X Y C D, FL W X mm ms → FL W Y nn ns → Calls Tryd.prog 19 #[.slice X mm C, .slice Y nn D] W fun e w' => e = .returned (.bool true) ∧ Below W.heap.size W w') (fun W X Y C D h1 h2 => counted_any X Y mm nn C D ms ns W h1 h2 (fun i hi => by
    obtain ⟨f, hf, q1, q2⟩ := hS.fac.all _ (get_mem (l := ms) (i := i) (by omega))
    obtain ⟨j, hj, q⟩ := List.getElem_of_mem hf
    refine ⟨j, by omega, ?_⟩
    rw [show ns.getD j default = ns[j] by simp [List.getD, hj], q]
    exact ⟨q1, q2⟩))
  have FM := Lib.hid (p := ∀ W B v, W.ownsRow B 32 3 v ms.length (fcs ms) → ∃ x c, v = .slice x mm c ∧ FL W x mm ms) (fun W B v o => by rw [← hmm]; exact fl_of_own o (by omega))
  have HM := Lib.hid hmm
  have HN := Lib.hid hnn
  clear h hw hP hS hA hE hE' hBn hTm hTn hmm hnn
  go_enter Tryd.func6, Tryd.ntmps6
  go_wp2_with fail
  go_at_call 8
  refine KH.out.mono ?_
  rintro e w1 ⟨rfl, b1⟩
  have B1 := Lib.hid b1
  clear b1
  go_wp2_with fail
  go_at_call 14
  refine (KS.out _ (H.out.later B1.out)).mono ?_
  rintro e w2 ⟨v, rfl, b2, o2⟩
  obtain ⟨xm, cm, rfl, fm⟩ := FM.out _ _ _ o2
  have B2 := Lib.hid (B1.out.trans (b2.mono B1.out.size))
  have M2 := Lib.hid fm
  clear b2 o2 fm
  go_wp2_with fail
  go_at_call 15
  refine (KN.out _ _ _ M2.out).mono ?_
  rintro e w3 ⟨xn, cn, rfl, b3, fn⟩
  have B3 := Lib.hid (B2.out.trans (b3.mono B2.out.size))
  have M3 := Lib.hid (M2.out.later b3)
  have N3 := Lib.hid fn
  clear b3 fn KH KS
  go_wp2
  go_loopw [6] (fun t wr => ∃ (i : Nat), i ≤ nn ∧ t = .int .i64 (i : Int) ∧ Below w3.heap.size w3 wr) (fun t _ => nn - (intOf t).toNat)
  case atStart => exact ⟨0, by omega, rfl, Below.refl _ _⟩
  case round =>
    obtain ⟨i, hi, rfl, hB⟩ := hrel
    rename World => wr
    have BB := Lib.hid hB
    by_cases hlt : i < nn
    · have HI := Lib.hid (p := ∀ W, Below w3.heap.size w3 W → wr.heap.size ≤ W.heap.size → ∃ bn on, xn = some ⟨bn, on, none⟩) (fun W b _ => by obtain ⟨b, o, q, _⟩ := fl_row N3.out (by omega); exact ⟨b, o, q⟩)
      obtain ⟨bn, on, hxn, hbn, hcn⟩ := fl_row N3.out (by omega)
      have CN := Lib.hid (p := ∀ W, Below w3.heap.size w3 W → ∀ k, k < nn → FC W bn (on + k * 3) (ns.getD k default)) (fun W bb k hk => (hcn k hk).later bb hbn)
      have hbr : bn < wr.heap.size := Nat.lt_of_lt_of_le hbn hB.size
      subst hxn
      clear hcn hB HI
      by_cases h0 : i = 0
      · subst h0
        rw [show ((0 : Nat) : Int) = 0 from rfl]
        have kc : (0 : Int) < (nn : Int) := by omega
        go_wp2
        go_quiet (fail)
        obtain ⟨W4, hW4⟩ : ∃ W4, wr.drewN nq = W4 := ⟨_, rfl⟩
        have BX := Lib.hid (p := Below w3.heap.size w3 W4) (by rw [← hW4]; exact ⟨BB.out.os, BB.out.tape, BB.out.output, BB.out.size, BB.out.block⟩)
        rw [hW4]
        clear hW4
        have GAT := Lib.hid (gat_of SS.out HM.out (y := ns.getD 0 default) (get_mem (by rw [HN.out]; omega)))
        obtain ⟨z0, z1, z2⟩ := CN.out W4 BX.out 0 (by omega)
        rw [Nat.zero_mul, Nat.add_zero] at z0 z1 z2
        generalize ns.getD 0 default = fy at *
        obtain ⟨yd, yc, ya⟩ := fy
        simp only at z0 z1 z2 GAT
        go_wp2
        obtain ⟨sf, pf, hg⟩ := GAT.out
        have GA := Lib.hid hg
        have CM := Lib.hid (p := ∀ k, k < mm → ∃ bm om, xm = some ⟨bm, om, none⟩ ∧ FC W4 bm (om + k * 3) (ms.getD k default)) (fun k hk => by obtain ⟨bm, om, q, hbm, hcm⟩ := fl_row M3.out (by omega); exact ⟨bm, om, q, (hcm k hk).later BX.out hbm⟩)
        clear hg
        go_loopw [7, 8, 9] (fun x sn t wy => ∃ (k : Nat), k ≤ mm ∧ t = .int .i64 (k : Int) ∧ x = .int .i64 (sf k) ∧ sn = .bool (pf k) ∧ ∃ q, wy = W4.drewN q) (fun _ _ t _ => mm - (intOf t).toNat)
        case atStart => exact ⟨0, by omega, rfl, by rw [GA.out.s0], by rw [GA.out.p0], 0, rfl⟩
        case round =>
          obtain ⟨k, hk, rfl, rfl, rfl, q4, hwy⟩ := hrel
          rename World => wy
          have HY := Lib.hid hwy
          have e0 : wy.cell? ⟨bn, on, none⟩ = some (.int .i64 yd) := by rw [hwy]; exact z0
          have e1 : wy.cell? ⟨bn, on + 1, none⟩ = some (.string yc) := by rw [hwy]; exact z1
          have e2 : wy.cell? ⟨bn, on + 2, none⟩ = some (.int .i64 ya) := by rw [hwy]; exact z2
          by_cases hkm : k < mm
          · obtain ⟨bm, om, rfl, hc⟩ := CM.out k hkm
            obtain ⟨c0, c1, c2⟩ := fc_q hc hwy
            have YES := Lib.hid (GA.out.yes k hkm)
            have NO := Lib.hid (GA.out.no k hkm)
            have bd := GA.out.bd k
            have bm' := GA.out.bm k hkm
            generalize ms.getD k default = m at *
            obtain ⟨md, mc, ma⟩ := m
            simp only at c0 c1 c2 YES NO bm'
            have kk : (k : Int) < (mm : Int) := by omega
            have kw9 : IntKind.i64.wrap ((k : Int) + 1) = (k : Int) + 1 := by simp [IntKind.wrap, IntKind.bits, IntKind.signed]; omega
            have sw9 : IntKind.i64.wrap (sf k + ma) = sf k + ma := by simp [IntKind.wrap, IntKind.bits, IntKind.signed]; omega
            clear hwy hc bd bm'
            by_cases hd9 : md = yd
            · by_cases hc9 : mc = yc
              · obtain ⟨n1, n2⟩ := YES.out ⟨hd9, hc9⟩
                have N1 := Lib.hid n1
                have N2 := Lib.hid n2
                have hq1 := hd9.symm
                subst hq1
                have hq2 := hc9.symm
                subst hq2
                have ss9 : (yc.toList == yc.toList) = true := by simp
                clear n1 n2
                go_wp2
                go_quiet (fail)
                go_wp2
                go_roundw
                case rel => exact ⟨k + 1, by omega, by simp, by rw [N1.out], by rw [N2.out], by rw [HY.out]; exact drewN_tw _ _ _⟩
                case measure => simp [intOf]; omega
              · obtain ⟨n1, n2⟩ := NO.out (fun r => hc9 r.2)
                have N1 := Lib.hid n1
                have N2 := Lib.hid n2
                have ss9 := str_neD hc9
                have hq1 := hd9.symm
                subst hq1
                clear n1 n2
                go_wp2
                go_quiet (fail)
                go_wp2
                go_roundw
                case rel => exact ⟨k + 1, by omega, by simp, by rw [N1.out], by rw [N2.out], by rw [HY.out]; exact drewN_tw _ _ _⟩
                case measure => simp [intOf]; omega
            · obtain ⟨n1, n2⟩ := NO.out (fun r => hd9 r.1)
              have N1 := Lib.hid n1
              have N2 := Lib.hid n2
              have dd9 : (md == yd) = false := by rw [beq_eq_false_iff_ne]; exact hd9
              clear n1 n2
              go_wp2
              go_quiet (fail)
              go_wp2
              go_roundw
              case rel => exact ⟨k + 1, by omega, by simp, by rw [N1.out], by rw [N2.out], by rw [HY.out]; exact drewN_tw _ _ _⟩
              case measure => simp [intOf]; omega
          · obtain rfl : k = mm := by omega
            have kk : ¬ (k : Int) < (k : Int) := by omega
            have F1 := GA.out.fin.1
            have F2 := GA.out.fin.2
            have BY := Lib.hid (p := Below w3.heap.size w3 wy) (by rw [hwy]; exact ⟨BX.out.os, BX.out.tape, BX.out.output, BX.out.size, BX.out.block⟩)
            rw [F1, F2]
            clear hwy F1 F2
            go_wp2
            exact ⟨⟨1, by omega, by first | rfl | simp | go_num, BY.out⟩, by simp [intOf]; omega⟩
      · obtain ⟨j, rfl⟩ : ∃ j, i = j + 1 := ⟨i - 1, by omega⟩
        have kc : (j : Int) + 1 < (nn : Int) := by omega
        have k0 : (0 : Int) < (j : Int) + 1 := by omega
        have kz : (0 : Int) ≤ (j : Int) + 1 := by omega
        have kt : ((j : Int) + 1).toNat = j + 1 := by omega
        have kc2 : (j : Int) + 1 ≤ (nn : Int) := by omega
        have GAT := Lib.hid (gat_of SS.out HM.out (y := ns.getD (j + 1) default) (get_mem (by rw [HN.out]; omega)))
        have k0' : decide ((0 : Int) < (j : Int) + 1) = true := decide_eq_true k0
        have kj : (j : Int) < (nn : Int) := by omega
        have kw : IntKind.i64.wrap ((j : Int) + 1 - 1) = (j : Int) := by simp [IntKind.wrap, IntKind.bits, IntKind.signed]; omega
        have kw2 : IntKind.i64.wrap (j : Int) = (j : Int) := by simp [IntKind.wrap, IntKind.bits, IntKind.signed]; omega
        have OR := Lib.hid (p := fLt (ns.getD j default) (ns.getD (j + 1) default) = true ∧ ¬ ((ns.getD j default).d = (ns.getD (j + 1) default).d ∧ (ns.getD j default).c = (ns.getD (j + 1) default).c)) (by
          have h1 : j < ns.length := by rw [HN.out]; omega
          have h2 : j + 1 < ns.length := by rw [HN.out]; omega
          have := (List.pairwise_iff_getElem.1 SS.out.fac.ord) j (j + 1) h1 h2 (by omega)
          rw [show ns.getD j default = ns[j] by simp [List.getD, h1], show ns.getD (j + 1) default = ns[j + 1] by simp [List.getD, h2]]
          exact this)
        obtain ⟨x0, x1, x2⟩ := CN.out wr BB.out j (by omega)
        obtain ⟨y0, y1, y2⟩ := CN.out wr BB.out (j + 1) (by omega)
        generalize ns.getD j default = fx at *
        generalize ns.getD (j + 1) default = fy at *
        obtain ⟨xd, xc, xa⟩ := fx
        obtain ⟨yd, yc, ya⟩ := fy
        simp only at x0 x1 x2 y0 y1 y2 OR GAT
        have KC := Lib.hid (fun W => compare_any xd xa yd ya xc yc W)
        have CL : cmpF ⟨xd, xc, xa⟩ ⟨yd, yc, ya⟩ < 0 := of_decide_eq_true OR.out.1
        generalize cmpF ⟨xd, xc, xa⟩ ⟨yd, yc, ya⟩ = CV at *
        have CL' : decide ((0 : Int) ≤ CV) = false := decide_eq_false (by omega)
        have CL2 : ¬ (0 : Int) ≤ CV := by omega
        by_cases hd : xd = yd
        · have hc : xc ≠ yc := fun q => OR.out.2 ⟨hd, q⟩
          have ss := str_neD hc
          subst hd
          go_wp2
          go_region_held3 (fun w' => w'.cell? ⟨bn, on + j * 3, none⟩ = some (.int .i64 xd) ∧ w'.cell? ⟨bn, on + j * 3 + 1, none⟩ = some (.string xc) ∧ w'.cell? ⟨bn, on + j * 3 + 2, none⟩ = some (.int .i64 xa) ∧ w'.cell? ⟨bn, on + (j + 1) * 3, none⟩ = some (.int .i64 xd) ∧ w'.cell? ⟨bn, on + (j + 1) * 3 + 1, none⟩ = some (.string yc) ∧ w'.cell? ⟨bn, on + (j + 1) * 3 + 2, none⟩ = some (.int .i64 ya))
            (refine ⟨?_, ?_, ?_, ?_, ?_, ?_⟩ <;> first | assumption | (go_simp; done))
            (first
            | (go_at_call 16; refine (KC.out _).mono ?_; rintro e w4 ⟨rfl, b4⟩; have C4 := Lib.hid (show Below wr.heap.size wr w4 from ((Below.refl wr.heap.size wr).drew).trans b4); have v0 := (C4.out.cell (p := ⟨bn, on + j * 3, none⟩) hbr).trans x0; have v1 := (C4.out.cell (p := ⟨bn, on + j * 3 + 1, none⟩) hbr).trans x1; have v2 := (C4.out.cell (p := ⟨bn, on + j * 3 + 2, none⟩) hbr).trans x2; have u0 := (C4.out.cell (p := ⟨bn, on + (j + 1) * 3, none⟩) hbr).trans y0; have u1 := (C4.out.cell (p := ⟨bn, on + (j + 1) * 3 + 1, none⟩) hbr).trans y1; have u2 := (C4.out.cell (p := ⟨bn, on + (j + 1) * 3 + 2, none⟩) hbr).trans y2; clear b4))
          all_goals
            have BX := Lib.hid (BB.out.trans (C4.out.mono BB.out.size))
            have z0 := u0
            have z1 := u1
            have z2 := u2
            clear x0 x1 x2 y0 y1 y2 v0 v1 v2 u0 u1 u2
            go_wp2
            obtain ⟨sf, pf, hg⟩ := GAT.out
            have GA := Lib.hid hg
            have CM := Lib.hid (p := ∀ k, k < mm → ∃ bm om, xm = some ⟨bm, om, none⟩ ∧ FC w4 bm (om + k * 3) (ms.getD k default)) (fun k hk => by obtain ⟨bm, om, q, hbm, hcm⟩ := fl_row M3.out (by omega); exact ⟨bm, om, q, (hcm k hk).later BX.out hbm⟩)
            clear hg
            go_loopw [7, 8, 9] (fun x sn t wy => ∃ (k : Nat), k ≤ mm ∧ t = .int .i64 (k : Int) ∧ x = .int .i64 (sf k) ∧ sn = .bool (pf k) ∧ ∃ q, wy = w4.drewN q) (fun _ _ t _ => mm - (intOf t).toNat)
            case atStart => exact ⟨0, by omega, rfl, by rw [GA.out.s0], by rw [GA.out.p0], 0, rfl⟩
            case round =>
              obtain ⟨k, hk, rfl, rfl, rfl, q4, hwy⟩ := hrel
              rename World => wy
              have HY := Lib.hid hwy
              have e0 : wy.cell? ⟨bn, on + (j + 1) * 3, none⟩ = some (.int .i64 xd) := by rw [hwy]; exact z0
              have e1 : wy.cell? ⟨bn, on + (j + 1) * 3 + 1, none⟩ = some (.string yc) := by rw [hwy]; exact z1
              have e2 : wy.cell? ⟨bn, on + (j + 1) * 3 + 2, none⟩ = some (.int .i64 ya) := by rw [hwy]; exact z2
              by_cases hkm : k < mm
              · obtain ⟨bm, om, rfl, hc⟩ := CM.out k hkm
                obtain ⟨c0, c1, c2⟩ := fc_q hc hwy
                have YES := Lib.hid (GA.out.yes k hkm)
                have NO := Lib.hid (GA.out.no k hkm)
                have bd := GA.out.bd k
                have bm' := GA.out.bm k hkm
                generalize ms.getD k default = m at *
                obtain ⟨md, mc, ma⟩ := m
                simp only at c0 c1 c2 YES NO bm'
                have kk : (k : Int) < (mm : Int) := by omega
                have kw9 : IntKind.i64.wrap ((k : Int) + 1) = (k : Int) + 1 := by simp [IntKind.wrap, IntKind.bits, IntKind.signed]; omega
                have sw9 : IntKind.i64.wrap (sf k + ma) = sf k + ma := by simp [IntKind.wrap, IntKind.bits, IntKind.signed]; omega
                clear hwy hc bd bm'
                by_cases hd9 : md = xd
                · by_cases hc9 : mc = yc
                  · obtain ⟨n1, n2⟩ := YES.out ⟨hd9, hc9⟩
                    have N1 := Lib.hid n1
                    have N2 := Lib.hid n2
                    have hq1 := hd9.symm
                    subst hq1
                    have hq2 := hc9.symm
                    subst hq2
                    have ss9 : (yc.toList == yc.toList) = true := by simp
                    clear n1 n2
                    go_wp2
                    go_quiet (fail)
                    go_wp2
                    go_roundw
                    case rel => exact ⟨k + 1, by omega, by simp, by rw [N1.out], by rw [N2.out], by rw [HY.out]; exact drewN_tw _ _ _⟩
                    case measure => simp [intOf]; omega
                  · obtain ⟨n1, n2⟩ := NO.out (fun r => hc9 r.2)
                    have N1 := Lib.hid n1
                    have N2 := Lib.hid n2
                    have ss9 := str_neD hc9
                    have hq1 := hd9.symm
                    subst hq1
                    clear n1 n2
                    go_wp2
                    go_quiet (fail)
                    go_wp2
                    go_roundw
                    case rel => exact ⟨k + 1, by omega, by simp, by rw [N1.out], by rw [N2.out], by rw [HY.out]; exact drewN_tw _ _ _⟩
                    case measure => simp [intOf]; omega
                · obtain ⟨n1, n2⟩ := NO.out (fun r => hd9 r.1)
                  have N1 := Lib.hid n1
                  have N2 := Lib.hid n2
                  have dd9 : (md == xd) = false := by rw [beq_eq_false_iff_ne]; exact hd9
                  clear n1 n2
                  go_wp2
                  go_quiet (fail)
                  go_wp2
                  go_roundw
                  case rel => exact ⟨k + 1, by omega, by simp, by rw [N1.out], by rw [N2.out], by rw [HY.out]; exact drewN_tw _ _ _⟩
                  case measure => simp [intOf]; omega
              · obtain rfl : k = mm := by omega
                have kk : ¬ (k : Int) < (k : Int) := by omega
                have F1 := GA.out.fin.1
                have F2 := GA.out.fin.2
                have BY := Lib.hid (p := Below w3.heap.size w3 wy) (by rw [hwy]; exact ⟨BX.out.os, BX.out.tape, BX.out.output, BX.out.size, BX.out.block⟩)
                rw [F1, F2]
                clear hwy F1 F2
                go_wp2
                exact ⟨⟨j + 1 + 1, by omega, by first | rfl | simp | go_num, BY.out⟩, by simp [intOf]; omega⟩
        · have dd : (xd == yd) = false := by rw [beq_eq_false_iff_ne]; exact hd
          go_wp2
          refine wp_region_held_drew (S := (fun w' => w'.cell? ⟨bn, on + j * 3, none⟩ = some (.int .i64 xd) ∧ w'.cell? ⟨bn, on + j * 3 + 1, none⟩ = some (.string xc) ∧ w'.cell? ⟨bn, on + j * 3 + 2, none⟩ = some (.int .i64 xa) ∧ w'.cell? ⟨bn, on + (j + 1) * 3, none⟩ = some (.int .i64 yd) ∧ w'.cell? ⟨bn, on + (j + 1) * 3 + 1, none⟩ = some (.string yc) ∧ w'.cell? ⟨bn, on + (j + 1) * 3 + 2, none⟩ = some (.int .i64 ya))) (by kernel_rfl) ?_ (fun hHeld => ?_)
          · (try dsimp only)
            (refine ⟨?_, ?_, ?_, ?_, ?_, ?_⟩ <;> first | assumption | (go_simp; done))
          refine wpAnyH_take (i := 0) (oi := { dst := some 35, op := Op.move (Operand.tmp 6), type := 3, pos := "outright.go:143", after := #[], guard := none }) (v := ?_) rfl (by kernel_rfl) (by kernel_rfl) (by kernel_rfl) (fun _ _ _ h => h) (Or.inl ⟨by rfl, ?_⟩) (by assumption) ?_
          rotate_left 1
          · intro w' hSw; (try dsimp only at hSw); go_simp; try with_reducible rfl
          (try simp only [Act.put, List.setIfInBounds_toArray, List.set_cons_zero, List.set_cons_succ])
          refine wpAnyH_take (i := 1) (oi := { dst := some 36, op := Op.binOp BinOp.gtr 3 (Operand.tmp 35) (Operand.const (Value.int IntKind.i64 0)) 3, type := 4, pos := "outright.go:143", after := #[{ on := 0, ground := Ground.data }], guard := none }) (v := ?_) rfl (by kernel_rfl) (by kernel_rfl) (by kernel_rfl) (fun _ _ _ h => h) (Or.inl ⟨by rfl, ?_⟩) (by assumption) ?_
          rotate_left 1
          · intro w' hSw; (try dsimp only at hSw); go_simp; try with_reducible rfl
          (try simp only [Act.put, List.setIfInBounds_toArray, List.set_cons_zero, List.set_cons_succ])
          refine wpAnyH_take (i := 2) (oi := { dst := some 37, op := Op.move (Operand.tmp 36), type := 4, pos := "outright.go:143", after := #[{ on := 1, ground := Ground.data }], guard := none }) (v := ?_) rfl (by kernel_rfl) (by kernel_rfl) (by kernel_rfl) (fun _ _ _ h => h) (Or.inl ⟨by rfl, ?_⟩) (by assumption) ?_
          rotate_left 1
          · intro w' hSw; (try dsimp only at hSw); go_simp; try with_reducible rfl
          (try simp only [Act.put, List.setIfInBounds_toArray, List.set_cons_zero, List.set_cons_succ])
          refine wpAnyH_take (i := 3) (oi := { dst := some 38, op := Op.move (Operand.tmp 4), type := 23, pos := "outright.go:143", after := #[{ on := 2, ground := Ground.guard }], guard := some (2, true) }) (v := ?_) rfl (by kernel_rfl) (by kernel_rfl) (by kernel_rfl) (fun _ _ _ h => h) (Or.inl ⟨by rfl, ?_⟩) (by assumption) ?_
          rotate_left 1
          · intro w' hSw; (try dsimp only at hSw); go_simp; try with_reducible rfl
          (try simp only [Act.put, List.setIfInBounds_toArray, List.set_cons_zero, List.set_cons_succ])
          refine wpAnyH_take (i := 4) (oi := { dst := some 39, op := Op.move (Operand.tmp 6), type := 3, pos := "outright.go:143", after := #[{ on := 2, ground := Ground.guard }], guard := some (2, true) }) (v := ?_) rfl (by kernel_rfl) (by kernel_rfl) (by kernel_rfl) (fun _ _ _ h => h) (Or.inl ⟨by rfl, ?_⟩) (by assumption) ?_
          rotate_left 1
          · intro w' hSw; (try dsimp only at hSw); go_simp; try with_reducible rfl
          (try simp only [Act.put, List.setIfInBounds_toArray, List.set_cons_zero, List.set_cons_succ])
          refine wpAnyH_take (i := 5) (oi := { dst := some 40, op := Op.binOp BinOp.sub 3 (Operand.tmp 39) (Operand.const (Value.int IntKind.i64 1)) 3, type := 3, pos := "outright.go:143", after := #[{ on := 4, ground := Ground.data }, { on := 2, ground := Ground.guard }], guard := some (2, true) }) (v := ?_) rfl (by kernel_rfl) (by kernel_rfl) (by kernel_rfl) (fun _ _ _ h => h) (Or.inl ⟨by rfl, ?_⟩) (by assumption) ?_
          rotate_left 1
          · intro w' hSw; (try dsimp only at hSw); go_simp; try with_reducible rfl
          (try simp only [Act.put, List.setIfInBounds_toArray, List.set_cons_zero, List.set_cons_succ])
          refine wpAnyH_take (i := 6) (oi := { dst := some 41, op := Op.indexAddr 23 (Operand.tmp 38) (Operand.tmp 40), type := 0, pos := "outright.go:143", after := #[{ on := 3, ground := Ground.data }, { on := 5, ground := Ground.data }, { on := 2, ground := Ground.guard }], guard := some (2, true) }) (v := ?_) rfl (by kernel_rfl) (by kernel_rfl) (by kernel_rfl) (fun _ _ _ h => h) (Or.inl ⟨by rfl, ?_⟩) (by assumption) ?_
          rotate_left 1
          · intro w' hSw; (try dsimp only at hSw); go_simp; try with_reducible rfl
          (try simp only [Act.put, List.setIfInBounds_toArray, List.set_cons_zero, List.set_cons_succ])
          refine wpAnyH_take (i := 7) (oi := { dst := some 42, op := Op.load 32 (Operand.tmp 41), type := 32, pos := "outright.go:143", after := #[{ on := 6, ground := Ground.data }, { on := 2, ground := Ground.guard }], guard := some (2, true) }) (v := ?_) rfl (by kernel_rfl) (by kernel_rfl) (by kernel_rfl) (fun _ _ _ h => h) (Or.inl ⟨by rfl, ?_⟩) (by assumption) ?_
          rotate_left 1
          · intro w' hSw; (try dsimp only at hSw); go_simp; try with_reducible rfl
          (try simp only [Act.put, List.setIfInBounds_toArray, List.set_cons_zero, List.set_cons_succ])
          refine wpAnyH_take (i := 8) (oi := { dst := some 43, op := Op.move (Operand.tmp 4), type := 23, pos := "outright.go:143", after := #[{ on := 2, ground := Ground.guard }], guard := some (2, true) }) (v := ?_) rfl (by kernel_rfl) (by kernel_rfl) (by kernel_rfl) (fun _ _ _ h => h) (Or.inl ⟨by rfl, ?_⟩) (by assumption) ?_
          rotate_left 1
          · intro w' hSw; (try dsimp only at hSw); go_simp; try with_reducible rfl
          (try simp only [Act.put, List.setIfInBounds_toArray, List.set_cons_zero, List.set_cons_succ])
          refine wpAnyH_take (i := 9) (oi := { dst := some 44, op := Op.move (Operand.tmp 6), type := 3, pos := "outright.go:143", after := #[{ on := 2, ground := Ground.guard }], guard := some (2, true) }) (v := ?_) rfl (by kernel_rfl) (by kernel_rfl) (by kernel_rfl) (fun _ _ _ h => h) (Or.inl ⟨by rfl, ?_⟩) (by assumption) ?_
          rotate_left 1
          · intro w' hSw; (try dsimp only at hSw); go_simp; try with_reducible rfl
          (try simp only [Act.put, List.setIfInBounds_toArray, List.set_cons_zero, List.set_cons_succ])
          refine wpAnyH_take (i := 10) (oi := { dst := some 45, op := Op.indexAddr 23 (Operand.tmp 43) (Operand.tmp 44), type := 0, pos := "outright.go:143", after := #[{ on := 8, ground := Ground.data }, { on := 9, ground := Ground.data }, { on := 2, ground := Ground.guard }], guard := some (2, true) }) (v := ?_) rfl (by kernel_rfl) (by kernel_rfl) (by kernel_rfl) (fun _ _ _ h => h) (Or.inl ⟨by rfl, ?_⟩) (by assumption) ?_
          rotate_left 1
          · intro w' hSw; (try dsimp only at hSw); go_simp; try with_reducible rfl
          (try simp only [Act.put, List.setIfInBounds_toArray, List.set_cons_zero, List.set_cons_succ])
          refine wpAnyH_take (i := 11) (oi := { dst := some 46, op := Op.load 32 (Operand.tmp 45), type := 32, pos := "outright.go:143", after := #[{ on := 10, ground := Ground.data }, { on := 2, ground := Ground.guard }], guard := some (2, true) }) (v := ?_) rfl (by kernel_rfl) (by kernel_rfl) (by kernel_rfl) (fun _ _ _ h => h) (Or.inl ⟨by rfl, ?_⟩) (by assumption) ?_
          rotate_left 1
          · intro w' hSw; (try dsimp only at hSw); go_simp; try with_reducible rfl
          (try simp only [Act.put, List.setIfInBounds_toArray, List.set_cons_zero, List.set_cons_succ])
          refine wpAnyH_ready (rs := [12]) (by kernel_rfl) (by simp) ?_
          refine AllReadyH.cons (o := { dst := some 47, op := Op.call { callee := Callee.value (Operand.func 16), args := #[Operand.tmp 42, Operand.tmp 46], argTypes := #[32, 32] }, type := 3, pos := "outright.go:143", after := #[{ on := 7, ground := Ground.data }, { on := 11, ground := Ground.data }, { on := 2, ground := Ground.chain }, { on := 2, ground := Ground.guard }], guard := some (2, true) }) rfl (fun K hK => ?_) AllReadyH.nil
          go_simp
          go_at_call 16
          refine (KC.out _).mono ?_
          rintro e w4 ⟨rfl, b4⟩
          have C4 := Lib.hid (show Below wr.heap.size wr w4 from ((Below.refl wr.heap.size wr).drew).trans b4)
          have v0 := (C4.out.cell (p := ⟨bn, on + j * 3, none⟩) hbr).trans x0
          have v1 := (C4.out.cell (p := ⟨bn, on + j * 3 + 1, none⟩) hbr).trans x1
          have v2 := (C4.out.cell (p := ⟨bn, on + j * 3 + 2, none⟩) hbr).trans x2
          have u0 := (C4.out.cell (p := ⟨bn, on + (j + 1) * 3, none⟩) hbr).trans y0
          have u1 := (C4.out.cell (p := ⟨bn, on + (j + 1) * 3 + 1, none⟩) hbr).trans y1
          have u2 := (C4.out.cell (p := ⟨bn, on + (j + 1) * 3 + 2, none⟩) hbr).trans y2
          clear b4
          refine hK.out _ _ ?_ (fun hHeld => ?_)
          · (try dsimp only)
            (refine ⟨?_, ?_, ?_, ?_, ?_, ?_⟩ <;> first | assumption | (go_simp; done))
          clear hK K
          (try simp only [Act.put, List.setIfInBounds_toArray, List.set_cons_zero, List.set_cons_succ])
          refine wpAnyH_take (i := 13) (oi := { dst := some 48, op := Op.binOp BinOp.geq 3 (Operand.tmp 47) (Operand.const (Value.int IntKind.i64 0)) 3, type := 4, pos := "outright.go:143", after := #[{ on := 12, ground := Ground.data }, { on := 2, ground := Ground.guard }], guard := some (2, true) }) (v := ?_) rfl (by kernel_rfl) (by kernel_rfl) (by kernel_rfl) (fun _ _ _ h => h) (Or.inl ⟨by rfl, ?_⟩) (by assumption) ?_
          rotate_left 1
          · intro w' hSw; (try dsimp only at hSw); go_simp; try with_reducible rfl
          (try simp only [Act.put, List.setIfInBounds_toArray, List.set_cons_zero, List.set_cons_succ])
          refine wpAnyH_take (i := 14) (oi := { dst := some 49, op := Op.move (Operand.tmp 48), type := 4, pos := "outright.go:143", after := #[{ on := 13, ground := Ground.data }, { on := 12, ground := Ground.chain }, { on := 2, ground := Ground.guard }], guard := some (2, true) }) (v := ?_) rfl (by kernel_rfl) (by kernel_rfl) (by kernel_rfl) (fun _ _ _ h => h) (Or.inl ⟨by rfl, ?_⟩) (by assumption) ?_
          rotate_left 1
          · intro w' hSw; (try dsimp only at hSw); go_simp; try with_reducible rfl
          (try simp only [Act.put, List.setIfInBounds_toArray, List.set_cons_zero, List.set_cons_succ])
          refine wpAnyH_take (i := 15) (oi := { dst := some 50, op := Op.move (Operand.tmp 4), type := 23, pos := "outright.go:143", after := #[{ on := 14, ground := Ground.guard }], guard := some (14, false) }) (v := ?_) rfl (by kernel_rfl) (by kernel_rfl) (by kernel_rfl) (fun _ _ _ h => h) (Or.inl ⟨by rfl, ?_⟩) (by assumption) ?_
          rotate_left 1
          · intro w' hSw; (try dsimp only at hSw); go_simp; try with_reducible rfl
          (try simp only [Act.put, List.setIfInBounds_toArray, List.set_cons_zero, List.set_cons_succ])
          refine wpAnyH_take (i := 16) (oi := { dst := some 51, op := Op.move (Operand.tmp 6), type := 3, pos := "outright.go:143", after := #[{ on := 14, ground := Ground.guard }], guard := some (14, false) }) (v := ?_) rfl (by kernel_rfl) (by kernel_rfl) (by kernel_rfl) (fun _ _ _ h => h) (Or.inl ⟨by rfl, ?_⟩) (by assumption) ?_
          rotate_left 1
          · intro w' hSw; (try dsimp only at hSw); go_simp; try with_reducible rfl
          (try simp only [Act.put, List.setIfInBounds_toArray, List.set_cons_zero, List.set_cons_succ])
          refine wpAnyH_take (i := 17) (oi := { dst := some 52, op := Op.binOp BinOp.sub 3 (Operand.tmp 51) (Operand.const (Value.int IntKind.i64 1)) 3, type := 3, pos := "outright.go:143", after := #[{ on := 16, ground := Ground.data }, { on := 14, ground := Ground.guard }], guard := some (14, false) }) (v := ?_) rfl (by kernel_rfl) (by kernel_rfl) (by kernel_rfl) (fun _ _ _ h => h) (Or.inl ⟨by rfl, ?_⟩) (by assumption) ?_
          rotate_left 1
          · intro w' hSw; (try dsimp only at hSw); go_simp; try with_reducible rfl
          (try simp only [Act.put, List.setIfInBounds_toArray, List.set_cons_zero, List.set_cons_succ])
          refine wpAnyH_take (i := 18) (oi := { dst := some 53, op := Op.indexAddr 23 (Operand.tmp 50) (Operand.tmp 52), type := 0, pos := "outright.go:143", after := #[{ on := 15, ground := Ground.data }, { on := 17, ground := Ground.data }, { on := 14, ground := Ground.guard }], guard := some (14, false) }) (v := ?_) rfl (by kernel_rfl) (by kernel_rfl) (by kernel_rfl) (fun _ _ _ h => h) (Or.inl ⟨by rfl, ?_⟩) (by assumption) ?_
          rotate_left 1
          · intro w' hSw; (try dsimp only at hSw); go_simp; try with_reducible rfl
          (try simp only [Act.put, List.setIfInBounds_toArray, List.set_cons_zero, List.set_cons_succ])
          refine wpAnyH_take (i := 19) (oi := { dst := some 54, op := Op.fieldAddr 32 (Operand.tmp 53) 0, type := 0, pos := "outright.go:143", after := #[{ on := 18, ground := Ground.data }, { on := 14, ground := Ground.guard }], guard := some (14, false) }) (v := ?_) rfl (by kernel_rfl) (by kernel_rfl) (by kernel_rfl) (fun _ _ _ h => h) (Or.inl ⟨by rfl, ?_⟩) (by assumption) ?_
          rotate_left 1
          · intro w' hSw; (try dsimp only at hSw); go_simp; try with_reducible rfl
          (try simp only [Act.put, List.setIfInBounds_toArray, List.set_cons_zero, List.set_cons_succ])
          refine wpAnyH_take (i := 20) (oi := { dst := some 55, op := Op.load 3 (Operand.tmp 54), type := 3, pos := "outright.go:143", after := #[{ on := 19, ground := Ground.data }, { on := 14, ground := Ground.guard }], guard := some (14, false) }) (v := ?_) rfl (by kernel_rfl) (by kernel_rfl) (by kernel_rfl) (fun _ _ _ h => h) (Or.inl ⟨by rfl, ?_⟩) (by assumption) ?_
          rotate_left 1
          · intro w' hSw; (try dsimp only at hSw); go_simp; try with_reducible rfl
          (try simp only [Act.put, List.setIfInBounds_toArray, List.set_cons_zero, List.set_cons_succ])
          refine wpAnyH_take (i := 21) (oi := { dst := some 56, op := Op.move (Operand.tmp 4), type := 23, pos := "outright.go:143", after := #[{ on := 14, ground := Ground.guard }], guard := some (14, false) }) (v := ?_) rfl (by kernel_rfl) (by kernel_rfl) (by kernel_rfl) (fun _ _ _ h => h) (Or.inl ⟨by rfl, ?_⟩) (by assumption) ?_
          rotate_left 1
          · intro w' hSw; (try dsimp only at hSw); go_simp; try with_reducible rfl
          (try simp only [Act.put, List.setIfInBounds_toArray, List.set_cons_zero, List.set_cons_succ])
          refine wpAnyH_take (i := 22) (oi := { dst := some 57, op := Op.move (Operand.tmp 6), type := 3, pos := "outright.go:143", after := #[{ on := 14, ground := Ground.guard }], guard := some (14, false) }) (v := ?_) rfl (by kernel_rfl) (by kernel_rfl) (by kernel_rfl) (fun _ _ _ h => h) (Or.inl ⟨by rfl, ?_⟩) (by assumption) ?_
          rotate_left 1
          · intro w' hSw; (try dsimp only at hSw); go_simp; try with_reducible rfl
          (try simp only [Act.put, List.setIfInBounds_toArray, List.set_cons_zero, List.set_cons_succ])
          refine wpAnyH_take (i := 23) (oi := { dst := some 58, op := Op.indexAddr 23 (Operand.tmp 56) (Operand.tmp 57), type := 0, pos := "outright.go:143", after := #[{ on := 21, ground := Ground.data }, { on := 22, ground := Ground.data }, { on := 14, ground := Ground.guard }], guard := some (14, false) }) (v := ?_) rfl (by kernel_rfl) (by kernel_rfl) (by kernel_rfl) (fun _ _ _ h => h) (Or.inl ⟨by rfl, ?_⟩) (by assumption) ?_
          rotate_left 1
          · intro w' hSw; (try dsimp only at hSw); go_simp; try with_reducible rfl
          (try simp only [Act.put, List.setIfInBounds_toArray, List.set_cons_zero, List.set_cons_succ])
          refine wpAnyH_take (i := 24) (oi := { dst := some 59, op := Op.fieldAddr 32 (Operand.tmp 58) 0, type := 0, pos := "outright.go:143", after := #[{ on := 23, ground := Ground.data }, { on := 14, ground := Ground.guard }], guard := some (14, false) }) (v := ?_) rfl (by kernel_rfl) (by kernel_rfl) (by kernel_rfl) (fun _ _ _ h => h) (Or.inl ⟨by rfl, ?_⟩) (by assumption) ?_
          rotate_left 1
          · intro w' hSw; (try dsimp only at hSw); go_simp; try with_reducible rfl
          (try simp only [Act.put, List.setIfInBounds_toArray, List.set_cons_zero, List.set_cons_succ])
          refine wpAnyH_take (i := 25) (oi := { dst := some 60, op := Op.load 3 (Operand.tmp 59), type := 3, pos := "outright.go:143", after := #[{ on := 24, ground := Ground.data }, { on := 14, ground := Ground.guard }], guard := some (14, false) }) (v := ?_) rfl (by kernel_rfl) (by kernel_rfl) (by kernel_rfl) (fun _ _ _ h => h) (Or.inl ⟨by rfl, ?_⟩) (by assumption) ?_
          rotate_left 1
          · intro w' hSw; (try dsimp only at hSw); go_simp; try with_reducible rfl
          (try simp only [Act.put, List.setIfInBounds_toArray, List.set_cons_zero, List.set_cons_succ])
          refine wpAnyH_take (i := 26) (oi := { dst := some 61, op := Op.binOp BinOp.eql 3 (Operand.tmp 55) (Operand.tmp 60) 3, type := 4, pos := "outright.go:143", after := #[{ on := 20, ground := Ground.data }, { on := 25, ground := Ground.data }, { on := 14, ground := Ground.guard }], guard := some (14, false) }) (v := ?_) rfl (by kernel_rfl) (by kernel_rfl) (by kernel_rfl) (fun _ _ _ h => h) (Or.inl ⟨by rfl, ?_⟩) (by assumption) ?_
          rotate_left 1
          · intro w' hSw; (try dsimp only at hSw); go_simp; try with_reducible rfl
          (try simp only [Act.put, List.setIfInBounds_toArray, List.set_cons_zero, List.set_cons_succ])
          refine wpAnyH_take (i := 27) (oi := { dst := some 62, op := Op.move (Operand.tmp 61), type := 4, pos := "outright.go:143", after := #[{ on := 26, ground := Ground.data }, { on := 14, ground := Ground.chain }, { on := 14, ground := Ground.guard }], guard := some (14, false) }) (v := ?_) rfl (by kernel_rfl) (by kernel_rfl) (by kernel_rfl) (fun _ _ _ h => h) (Or.inl ⟨by rfl, ?_⟩) (by assumption) ?_
          rotate_left 1
          · intro w' hSw; (try dsimp only at hSw); go_simp; try with_reducible rfl
          (try simp only [Act.put, List.setIfInBounds_toArray, List.set_cons_zero, List.set_cons_succ])
          refine wpAnyH_take (i := 28) (oi := { dst := some 63, op := Op.move (Operand.tmp 4), type := 23, pos := "outright.go:143", after := #[{ on := 27, ground := Ground.guard }], guard := some (27, true) }) (v := undef) rfl (by kernel_rfl) (by kernel_rfl) (by kernel_rfl) (fun _ _ _ h => h) (Or.inr ⟨by rfl, rfl⟩) (by assumption) ?_
          (try simp only [Act.put, List.setIfInBounds_toArray, List.set_cons_zero, List.set_cons_succ])
          refine wpAnyH_take (i := 29) (oi := { dst := some 64, op := Op.move (Operand.tmp 6), type := 3, pos := "outright.go:143", after := #[{ on := 27, ground := Ground.guard }], guard := some (27, true) }) (v := undef) rfl (by kernel_rfl) (by kernel_rfl) (by kernel_rfl) (fun _ _ _ h => h) (Or.inr ⟨by rfl, rfl⟩) (by assumption) ?_
          (try simp only [Act.put, List.setIfInBounds_toArray, List.set_cons_zero, List.set_cons_succ])
          refine wpAnyH_take (i := 30) (oi := { dst := some 65, op := Op.binOp BinOp.sub 3 (Operand.tmp 64) (Operand.const (Value.int IntKind.i64 1)) 3, type := 3, pos := "outright.go:143", after := #[{ on := 29, ground := Ground.data }, { on := 27, ground := Ground.guard }], guard := some (27, true) }) (v := undef) rfl (by kernel_rfl) (by kernel_rfl) (by kernel_rfl) (fun _ _ _ h => h) (Or.inr ⟨by rfl, rfl⟩) (by assumption) ?_
          (try simp only [Act.put, List.setIfInBounds_toArray, List.set_cons_zero, List.set_cons_succ])
          refine wpAnyH_take (i := 31) (oi := { dst := some 66, op := Op.indexAddr 23 (Operand.tmp 63) (Operand.tmp 65), type := 0, pos := "outright.go:143", after := #[{ on := 28, ground := Ground.data }, { on := 30, ground := Ground.data }, { on := 27, ground := Ground.guard }], guard := some (27, true) }) (v := undef) rfl (by kernel_rfl) (by kernel_rfl) (by kernel_rfl) (fun _ _ _ h => h) (Or.inr ⟨by rfl, rfl⟩) (by assumption) ?_
          (try simp only [Act.put, List.setIfInBounds_toArray, List.set_cons_zero, List.set_cons_succ])
          refine wpAnyH_take (i := 32) (oi := { dst := some 67, op := Op.fieldAddr 32 (Operand.tmp 66) 1, type := 0, pos := "outright.go:143", after := #[{ on := 31, ground := Ground.data }, { on := 27, ground := Ground.guard }], guard := some (27, true) }) (v := undef) rfl (by kernel_rfl) (by kernel_rfl) (by kernel_rfl) (fun _ _ _ h => h) (Or.inr ⟨by rfl, rfl⟩) (by assumption) ?_
          (try simp only [Act.put, List.setIfInBounds_toArray, List.set_cons_zero, List.set_cons_succ])
          refine wpAnyH_take (i := 33) (oi := { dst := some 68, op := Op.load 9 (Operand.tmp 67), type := 9, pos := "outright.go:143", after := #[{ on := 32, ground := Ground.data }, { on := 27, ground := Ground.guard }], guard := some (27, true) }) (v := undef) rfl (by kernel_rfl) (by kernel_rfl) (by kernel_rfl) (fun _ _ _ h => h) (Or.inr ⟨by rfl, rfl⟩) (by assumption) ?_
          (try simp only [Act.put, List.setIfInBounds_toArray, List.set_cons_zero, List.set_cons_succ])
          refine wpAnyH_take (i := 34) (oi := { dst := some 69, op := Op.move (Operand.tmp 4), type := 23, pos := "outright.go:143", after := #[{ on := 27, ground := Ground.guard }], guard := some (27, true) }) (v := undef) rfl (by kernel_rfl) (by kernel_rfl) (by kernel_rfl) (fun _ _ _ h => h) (Or.inr ⟨by rfl, rfl⟩) (by assumption) ?_
          (try simp only [Act.put, List.setIfInBounds_toArray, List.set_cons_zero, List.set_cons_succ])
          refine wpAnyH_take (i := 35) (oi := { dst := some 70, op := Op.move (Operand.tmp 6), type := 3, pos := "outright.go:143", after := #[{ on := 27, ground := Ground.guard }], guard := some (27, true) }) (v := undef) rfl (by kernel_rfl) (by kernel_rfl) (by kernel_rfl) (fun _ _ _ h => h) (Or.inr ⟨by rfl, rfl⟩) (by assumption) ?_
          (try simp only [Act.put, List.setIfInBounds_toArray, List.set_cons_zero, List.set_cons_succ])
          refine wpAnyH_take (i := 36) (oi := { dst := some 71, op := Op.indexAddr 23 (Operand.tmp 69) (Operand.tmp 70), type := 0, pos := "outright.go:143", after := #[{ on := 34, ground := Ground.data }, { on := 35, ground := Ground.data }, { on := 27, ground := Ground.guard }], guard := some (27, true) }) (v := undef) rfl (by kernel_rfl) (by kernel_rfl) (by kernel_rfl) (fun _ _ _ h => h) (Or.inr ⟨by rfl, rfl⟩) (by assumption) ?_
          (try simp only [Act.put, List.setIfInBounds_toArray, List.set_cons_zero, List.set_cons_succ])
          refine wpAnyH_take (i := 37) (oi := { dst := some 72, op := Op.fieldAddr 32 (Operand.tmp 71) 1, type := 0, pos := "outright.go:143", after := #[{ on := 36, ground := Ground.data }, { on := 27, ground := Ground.guard }], guard := some (27, true) }) (v := undef) rfl (by kernel_rfl) (by kernel_rfl) (by kernel_rfl) (fun _ _ _ h => h) (Or.inr ⟨by rfl, rfl⟩) (by assumption) ?_
          (try simp only [Act.put, List.setIfInBounds_toArray, List.set_cons_zero, List.set_cons_succ])
          refine wpAnyH_take (i := 38) (oi := { dst := some 73, op := Op.load 9 (Operand.tmp 72), type := 9, pos := "outright.go:143", after := #[{ on := 37, ground := Ground.data }, { on := 27, ground := Ground.guard }], guard := some (27, true) }) (v := undef) rfl (by kernel_rfl) (by kernel_rfl) (by kernel_rfl) (fun _ _ _ h => h) (Or.inr ⟨by rfl, rfl⟩) (by assumption) ?_
          (try simp only [Act.put, List.setIfInBounds_toArray, List.set_cons_zero, List.set_cons_succ])
          refine wpAnyH_take (i := 39) (oi := { dst := some 74, op := Op.binOp BinOp.eql 9 (Operand.tmp 68) (Operand.tmp 73) 9, type := 4, pos := "outright.go:143", after := #[{ on := 33, ground := Ground.data }, { on := 38, ground := Ground.data }, { on := 27, ground := Ground.guard }], guard := some (27, true) }) (v := undef) rfl (by kernel_rfl) (by kernel_rfl) (by kernel_rfl) (fun _ _ _ h => h) (Or.inr ⟨by rfl, rfl⟩) (by assumption) ?_
          (try simp only [Act.put, List.setIfInBounds_toArray, List.set_cons_zero, List.set_cons_succ])
          refine wpAnyH_take (i := 40) (oi := { dst := some 75, op := Op.pick (Operand.tmp 62) (Operand.tmp 74) (Operand.const (Value.bool false)), type := 4, pos := "outright.go:143", after := #[{ on := 27, ground := Ground.data }, { on := 39, ground := Ground.data }, { on := 14, ground := Ground.guard }], guard := some (14, false) }) (v := ?_) rfl (by kernel_rfl) (by kernel_rfl) (by kernel_rfl) (fun _ _ _ h => h) (Or.inl ⟨by rfl, ?_⟩) (by assumption) ?_
          rotate_left 1
          · intro w' hSw; (try dsimp only at hSw); go_simp; try with_reducible rfl
          (try simp only [Act.put, List.setIfInBounds_toArray, List.set_cons_zero, List.set_cons_succ])
          refine wpAnyH_take (i := 41) (oi := { dst := some 76, op := Op.pick (Operand.tmp 49) (Operand.const (Value.bool true)) (Operand.tmp 75), type := 4, pos := "outright.go:143", after := #[{ on := 14, ground := Ground.data }, { on := 40, ground := Ground.data }, { on := 2, ground := Ground.guard }], guard := some (2, true) }) (v := ?_) rfl (by kernel_rfl) (by kernel_rfl) (by kernel_rfl) (fun _ _ _ h => h) (Or.inl ⟨by rfl, ?_⟩) (by assumption) ?_
          rotate_left 1
          · intro w' hSw; (try dsimp only at hSw); go_simp; try with_reducible rfl
          (try simp only [Act.put, List.setIfInBounds_toArray, List.set_cons_zero, List.set_cons_succ])
          refine wpAnyH_take (i := 42) (oi := { dst := some 77, op := Op.pick (Operand.tmp 37) (Operand.tmp 76) (Operand.const (Value.bool false)), type := 4, pos := "outright.go:143", after := #[{ on := 2, ground := Ground.data }, { on := 41, ground := Ground.data }], guard := none }) (v := ?_) rfl (by kernel_rfl) (by kernel_rfl) (by kernel_rfl) (fun _ _ _ h => h) (Or.inl ⟨by rfl, ?_⟩) (by assumption) ?_
          rotate_left 1
          · intro w' hSw; (try dsimp only at hSw); go_simp; try with_reducible rfl
          (try simp only [Act.put, List.setIfInBounds_toArray, List.set_cons_zero, List.set_cons_succ])
          refine wpAnyH_done (by kernel_rfl) ?_ _
          have BX := Lib.hid (BB.out.trans (C4.out.mono BB.out.size))
          have z0 := u0
          have z1 := u1
          have z2 := u2
          clear x0 x1 x2 y0 y1 y2 v0 v1 v2 u0 u1 u2
          go_wp2
          obtain ⟨sf, pf, hg⟩ := GAT.out
          have GA := Lib.hid hg
          have CM := Lib.hid (p := ∀ k, k < mm → ∃ bm om, xm = some ⟨bm, om, none⟩ ∧ FC w4 bm (om + k * 3) (ms.getD k default)) (fun k hk => by obtain ⟨bm, om, q, hbm, hcm⟩ := fl_row M3.out (by omega); exact ⟨bm, om, q, (hcm k hk).later BX.out hbm⟩)
          clear hg
          go_loopw [7, 8, 9] (fun x sn t wy => ∃ (k : Nat), k ≤ mm ∧ t = .int .i64 (k : Int) ∧ x = .int .i64 (sf k) ∧ sn = .bool (pf k) ∧ ∃ q, wy = w4.drewN q) (fun _ _ t _ => mm - (intOf t).toNat)
          case atStart => exact ⟨0, by omega, rfl, by rw [GA.out.s0], by rw [GA.out.p0], 0, rfl⟩
          case round =>
            obtain ⟨k, hk, rfl, rfl, rfl, q4, hwy⟩ := hrel
            rename World => wy
            have HY := Lib.hid hwy
            have e0 : wy.cell? ⟨bn, on + (j + 1) * 3, none⟩ = some (.int .i64 yd) := by rw [hwy]; exact z0
            have e1 : wy.cell? ⟨bn, on + (j + 1) * 3 + 1, none⟩ = some (.string yc) := by rw [hwy]; exact z1
            have e2 : wy.cell? ⟨bn, on + (j + 1) * 3 + 2, none⟩ = some (.int .i64 ya) := by rw [hwy]; exact z2
            by_cases hkm : k < mm
            · obtain ⟨bm, om, rfl, hc⟩ := CM.out k hkm
              obtain ⟨c0, c1, c2⟩ := fc_q hc hwy
              have YES := Lib.hid (GA.out.yes k hkm)
              have NO := Lib.hid (GA.out.no k hkm)
              have bd := GA.out.bd k
              have bm' := GA.out.bm k hkm
              generalize ms.getD k default = m at *
              obtain ⟨md, mc, ma⟩ := m
              simp only at c0 c1 c2 YES NO bm'
              have kk : (k : Int) < (mm : Int) := by omega
              have kw9 : IntKind.i64.wrap ((k : Int) + 1) = (k : Int) + 1 := by simp [IntKind.wrap, IntKind.bits, IntKind.signed]; omega
              have sw9 : IntKind.i64.wrap (sf k + ma) = sf k + ma := by simp [IntKind.wrap, IntKind.bits, IntKind.signed]; omega
              clear hwy hc bd bm'
              by_cases hd9 : md = yd
              · by_cases hc9 : mc = yc
                · obtain ⟨n1, n2⟩ := YES.out ⟨hd9, hc9⟩
                  have N1 := Lib.hid n1
                  have N2 := Lib.hid n2
                  have hq1 := hd9.symm
                  subst hq1
                  have hq2 := hc9.symm
                  subst hq2
                  have ss9 : (yc.toList == yc.toList) = true := by simp
                  clear n1 n2
                  go_wp2
                  go_quiet (fail)
                  go_wp2
                  go_roundw
                  case rel => exact ⟨k + 1, by omega, by simp, by rw [N1.out], by rw [N2.out], by rw [HY.out]; exact drewN_tw _ _ _⟩
                  case measure => simp [intOf]; omega
                · obtain ⟨n1, n2⟩ := NO.out (fun r => hc9 r.2)
                  have N1 := Lib.hid n1
                  have N2 := Lib.hid n2
                  have ss9 := str_neD hc9
                  have hq1 := hd9.symm
                  subst hq1
                  clear n1 n2
                  go_wp2
                  go_quiet (fail)
                  go_wp2
                  go_roundw
                  case rel => exact ⟨k + 1, by omega, by simp, by rw [N1.out], by rw [N2.out], by rw [HY.out]; exact drewN_tw _ _ _⟩
                  case measure => simp [intOf]; omega
              · obtain ⟨n1, n2⟩ := NO.out (fun r => hd9 r.1)
                have N1 := Lib.hid n1
                have N2 := Lib.hid n2
                have dd9 : (md == yd) = false := by rw [beq_eq_false_iff_ne]; exact hd9
                clear n1 n2
                go_wp2
                go_quiet (fail)
                go_wp2
                go_roundw
                case rel => exact ⟨k + 1, by omega, by simp, by rw [N1.out], by rw [N2.out], by rw [HY.out]; exact drewN_tw _ _ _⟩
                case measure => simp [intOf]; omega
            · obtain rfl : k = mm := by omega
              have kk : ¬ (k : Int) < (k : Int) := by omega
              have F1 := GA.out.fin.1
              have F2 := GA.out.fin.2
              have BY := Lib.hid (p := Below w3.heap.size w3 wy) (by rw [hwy]; exact ⟨BX.out.os, BX.out.tape, BX.out.output, BX.out.size, BX.out.block⟩)
              rw [F1, F2]
              clear hwy F1 F2
              go_wp2
              exact ⟨⟨j + 1 + 1, by omega, by first | rfl | simp | go_num, BY.out⟩, by simp [intOf]; omega⟩
    · obtain rfl : i = nn := by omega
      have kc : ¬ (i : Int) < (i : Int) := by omega
      have SZ3 := Lib.hid hB.size
      have mw : IntKind.i64.wrap ((mm : Int) - 1) = (mm : Int) - 1 := by simp [IntKind.wrap, IntKind.bits, IntKind.signed]; omega
      clear hB
      go_wp2
      go_loopw [10, 11] (fun x t wy => ∃ (k : Nat), k ≤ mm ∧ t = .int .i64 ((mm : Int) - 1 - (k : Int)) ∧ wy.ownsRow wr.heap.size 32 3 x (ms.reverse.take k).length (fcs (ms.reverse.take k)) ∧ Below wr.heap.size wr wy) (fun _ t _ => (intOf t + 1).toNat)
      case atStart => exact ⟨0, by omega, by simp, World.ownsRow_nil _ _ _ _, Below.refl _ _⟩
      case round =>
        obtain ⟨k, hk, rfl, hO, hB⟩ := hrel
        rename World => wy
        have OO := Lib.hid hO
        have BY := Lib.hid hB
        have B3Y := Lib.hid (BB.out.trans (hB.mono BB.out.size))
        by_cases hkm : k < mm
        · obtain ⟨bm, om, rfl, hbm, hcm⟩ := fl_row M3.out (by omega)
          obtain ⟨j, hj⟩ : ∃ j, mm - 1 - k = j := ⟨_, rfl⟩
          have hjm : j < mm := by omega
          obtain ⟨c0, c1, c2⟩ := (hcm j hjm).later B3Y.out hbm
          have RK := Lib.hid (RT.out k hkm)
          rw [hj] at RK
          have gl : (ms.reverse.take k).length ≤ k := by rw [List.length_take]; omega
          generalize ms.reverse.take k = gs at *
          generalize ms.getD j default = f at *
          obtain ⟨fd, fc, fa⟩ := f
          simp only at c0 c1 c2
          have tj : (mm : Int) - 1 - (k : Int) = (j : Int) := by omega
          rw [tj]
          have kc9 : (0 : Int) ≤ (j : Int) := by omega
          have kjm : (j : Int) < (mm : Int) := by omega
          have kw : IntKind.i64.wrap ((j : Int) - 1) = (j : Int) - 1 := by simp [IntKind.wrap, IntKind.bits, IntKind.signed]; omega
          clear hcm hO hB
          go_wp2_with (at_builtin; refine wp_flow _ fd fa fc rfl _ _ rfl wr.heap.size _ gs rfl rfl OO.out (by omega) BY.out.size ?_; intro v' w5 ho hg; have O5 := Lib.hid ho; have B5 := Lib.hid ((BY.out.alloc BY.out.size _).grown hg (Nat.le_trans BY.out.size (by simp)) (fun k e => (OO.out.lt k e).1)); clear ho hg)
          go_roundw
          case rel => exact ⟨k + 1, by omega, by congr 1; omega, by rw [RK.out]; exact O5.out, B5.out⟩
          case measure => simp [intOf]
        · obtain rfl : k = mm := by omega
          obtain ⟨xt, ct, rfl, ft⟩ := FR.out _ _ _ hO
          have FT := Lib.hid ft
          have kc9 : ¬ (0 : Int) ≤ (k : Int) - 1 - (k : Int) := by omega
          have kc10 : (k : Int) - 1 - (k : Int) = -1 := by omega
          rw [kc10]
          clear ft hO hB kc10
          go_wp2_with fail
          go_at_call 15
          refine (KU.out _ _ _ FT.out).mono ?_
          rintro e w6 ⟨xu, cu, rfl, b6, fu⟩
          have B6 := Lib.hid (B3Y.out.trans (b6.mono B3Y.out.size))
          have U6 := Lib.hid fu
          clear b6 fu
          go_wp2_with fail
          go_at_call 17
          refine (KTm.out _ _ _ (M3.out.later B6.out)).mono ?_
          rintro e w7 ⟨x7, c7, ts, rfl, b7, tp, ts2, t7, tl⟩
          have B7 := Lib.hid (B6.out.trans (b7.mono B6.out.size))
          have U7 := Lib.hid (U6.out.later b7)
          have T7 := Lib.hid t7
          clear b7 t7
          go_wp2_with fail
          go_at_call 17
          refine (KTn.out _ _ _ (N3.out.later B7.out)).mono ?_
          rintro e w8 ⟨x8, c8, us, rfl, b8, up, us2, t8, ul⟩
          obtain rfl := TS.out ts us tp ts2 up us2
          have B8 := Lib.hid (B7.out.trans (b8.mono B7.out.size))
          have U8 := Lib.hid (U7.out.later b8)
          have T8 := Lib.hid (T7.out.later b8)
          have V8 := Lib.hid t8
          have E1 := Lib.hid (p := ∀ W, Below w8.heap.size w8 W → Calls Tryd.prog 12 #[.slice xn i cn, .slice xu i cu] W fun e w' => e = .returned (.bool true) ∧ Below W.heap.size W w') (fun W b => same_fl xn xu i cn cu ns W (N3.out.later (B8.out.trans (b.mono B8.out.size))) (U8.out.later b))
          have E2 := Lib.hid (p := ∀ W, Below w8.heap.size w8 W → Calls Tryd.prog 18 #[.slice x7 us.length c7, .slice x8 us.length c8] W fun e w' => e = .returned (.bool true) ∧ Below W.heap.size W w') (fun W b => sameT_any x7 x8 us.length c7 c8 us W rfl ul (T8.out.later b) (V8.out.later b))
          have E3 := Lib.hid (p := ∀ W, Below w8.heap.size w8 W → Calls Tryd.prog 19 #[.slice xm k cm, .slice xn i cn] W fun e w' => e = .returned (.bool true) ∧ Below W.heap.size W w') (fun W b => KC9.out W xm xn cm cn (M3.out.later (B8.out.trans (b.mono B8.out.size))) (N3.out.later (B8.out.trans (b.mono B8.out.size))))
          clear b8 t8 tp ts2 up us2 tl ul
          generalize us.length = L9 at *
          go_wp2_with fail
          go_at_call 12
          refine (E1.out _ (Below.refl _ _)).mono ?_
          rintro e w9 ⟨rfl, b9⟩
          have B9 := Lib.hid b9
          clear b9
          go_wp2_with fail
          go_at_call 18
          refine (E2.out _ B9.out).mono ?_
          rintro e w10 ⟨rfl, b10⟩
          have B10 := Lib.hid (B9.out.trans (b10.mono B9.out.size))
          clear b10
          go_wp2_with fail
          go_at_call 19
          refine (E3.out _ B10.out).mono ?_
          rintro e w11 ⟨rfl, b11⟩
          have B11 := Lib.hid (B10.out.trans (b11.mono B10.out.size))
          have BZ := Lib.hid (B3.out.trans ((B8.out.trans (B11.out.mono B8.out.size)).mono B3.out.size))
          clear b11
          go_wp2
          go_ret
          exact ⟨rfl, BZ.out⟩
end Go.Proofs.YtmdgfcldohmjdaaDoor
