import Derived.Test.YtccjeipkljdhdaaGreatDoorXAQ
import Derived.Test.YtccjeipkljdhdaaGreatDoorXAC
namespace Go.Proofs.YtccjeipkljdhdaaGreatDoor
open Go.RowKit
set_option linter.unusedVariables false
set_option linter.unusedSimpArgs false

/-- The variables that reading looks at. -/
structure GlA (W : World) : Prop where
  pw : Pows W
  ev : Ev W
  rw_ : Rws W
  md : Mds W
  ln : LnR W
theorem hdW_len : hdW.length = 8 := rfl
theorem hd_get (k : Nat) (hk : k < 8) : hdW[k]'(by rw [hdW_len]; exact hk) = hdA k := by
  unfold hdA
  rw [List.getD_eq_getElem?_getD, List.getElem?_eq_getElem (by rw [hdW_len]; exact hk), Option.getD_some]
theorem lnE_hdI (s : ByteArray) : (∃ k : Nat, k < 8 ∧ hdI s = k ∧ LnE s (k : Int) true) ∨ (¬ hdI s < 8 ∧ LnE s 0 false) := by
  by_cases h : ∃ k : Nat, k < 8 ∧ hdA k = s
  · obtain ⟨k, hk, e⟩ := h
    refine .inl ⟨k, hk, ?_, .inl ⟨k, hk, e, rfl, rfl⟩⟩
    unfold hdI
    rw [List.findIdx_eq (by rw [hdW_len]; exact hk)]
    refine ⟨by rw [hd_get k hk]; simp [e], fun j hj => ?_⟩
    rw [hd_get j (by omega)]
    simp only [decide_eq_false_iff_not]
    exact fun q => hd_ne j (by omega) k hk (by omega) (q.trans e.symm)
  · refine .inr ⟨fun q => h ⟨hdI s, q, ?_⟩, .inr ⟨fun k hk e => h ⟨k, hk, e⟩, rfl, rfl⟩⟩
    have := List.findIdx_getElem (xs := hdW) (p := fun x => decide (x = s)) (w := by rw [hdW_len]; exact q)
    rw [← hd_get (hdI s) q]
    exact of_decide_eq_true this
theorem sr_setQ {w : World} {xb xo n c rb j : Nat} {v : Value} {ss : List ByteArray} (h : SR w (some ⟨xb, xo, none⟩) n c ss) (hne : rb ≠ xb) : SR (w.setCell ⟨rb, j, none⟩ v) (some ⟨xb, xo, none⟩) n c ss := by
  refine ⟨h.1, h.2.1, h.2.2.1, h.2.2.2.1, ?_⟩
  rcases h.2.2.2.2 with q | ⟨b, o, e, h1, h2⟩
  · exact .inl q
  · refine .inr ⟨b, o, e, by simpa using h1, fun i hi k hk => ?_⟩
    injection e with e
    injection e with e1 e2
    subst e1
    rw [World.cell?_setCell_other _ _ _ _ (by first | (simp; done) | (simp; omega))]
    exact h2 i hi k hk
theorem sr_tail {w : World} {xb xo n c : Nat} {u : ByteArray} {ss : List ByteArray} (h : SR w (some ⟨xb, xo, none⟩) n c (u :: ss)) : SR w (some ⟨xb, xo + 1, none⟩) (n - 1) (c - 1) ss := by
  obtain ⟨h1, h2, h3, h4, h5⟩ := h
  simp only [List.length_cons] at h2
  refine ⟨⟨fun e => (by cases e), by have := h1.2.1; omega, by have := h1.2.2; omega⟩, by omega, by omega, fun s hs => h4 s (List.mem_cons_of_mem _ hs), ?_⟩
  rcases h5 with q | ⟨b, o, e, q1, q2⟩
  · omega
  · refine .inr ⟨b, o + 1, ?_, q1, fun i hi j hj => ?_⟩
    · injection e with e; injection e with e1 e2 _; subst e1 e2; first | done | rfl
    · have := q2 (i + 1) (by omega) j hj
      rw [show o + (i + 1) * 1 + j = o + 1 + i * 1 + j by omega] at this
      simpa using this
/-- What take leaves. -/
def TkG (rb : Nat) (rest : ByteArray) (cnt m : Nat) (av : Option Nat) (o : Option (Nat × Ap)) (w : World) (e : Ending) (w' : World) : Prop := e = .returned (.bool o.isSome) ∧ (FrR rb w w' ∧ w'.cell? ⟨rb, 1, none⟩ = some (.int .i64 (cnt : Int))) ∧ ∀ q, o = some q → RsP rb w' rest cnt q.1 q.2 m av
theorem RsP.later {rb : Nat} {W W' : World} {rest : ByteArray} {cnt next m : Nat} {av : Option Nat} {p : Ap} (h : RsP rb W rest cnt next p m av) (b : Below W.heap.size W W') : RsP rb W' rest cnt next p m av := by
  obtain ⟨vn, vu, vp, vd, fn, fu, fp, D, hb, hl⟩ := h
  exact ⟨vn, vu, vp, vd, fn, fu, fp, D, hb.belw b, hl.later b⟩
theorem RsP.more {rb : Nat} {W : World} {rest : ByteArray} {cnt next m m' : Nat} {av : Option Nat} {p : Ap} (h : RsP rb W rest cnt next p m av) (k : m ≤ m') : RsP rb W rest cnt next p m' av := by
  obtain ⟨vn, vu, vp, vd, fn, fu, fp, D, hb, hl⟩ := h
  exact ⟨vn, vu, vp, vd, fn, fu, fp, D, hb, hl.more k⟩
/-- The cells of a reader that is read: the rest, the count, the next line. -/
theorem RsP.head {rb : Nat} {W : World} {rest : ByteArray} {cnt next m : Nat} {av : Option Nat} {p : Ap} (h : RsP rb W rest cnt next p m av) : (W.cell? ⟨rb, 0, none⟩ = some (.string rest) ∧ W.frozen? ⟨rb, 0, none⟩ = false) ∧ (W.cell? ⟨rb, 1, none⟩ = some (.int .i64 cnt) ∧ W.frozen? ⟨rb, 1, none⟩ = false) ∧ (W.cell? ⟨rb, 2, none⟩ = some (.int .i64 next) ∧ W.frozen? ⟨rb, 2, none⟩ = false) ∧ rb < W.heap.size := by
  obtain ⟨vn, vu, vp, vd, fn, fu, fp, D, hb, hl⟩ := h
  exact ⟨⟨hb.cell 0, hb.frozen 0⟩, ⟨hb.cell 1, hb.frozen 1⟩, ⟨hb.cell 2, hb.frozen 2⟩, hb.lt⟩
theorem RsP.put0 {rb : Nat} {W : World} {rest : ByteArray} {cnt next m : Nat} {av : Option Nat} {p : Ap} (h : RsP rb W rest cnt next p m av) (x : ByteArray) : RsP rb (W.setCell ⟨rb, 0, none⟩ (.string x)) x cnt next p m av ∧ FrR rb W (W.setCell ⟨rb, 0, none⟩ (.string x)) := by
  obtain ⟨vn, vu, vp, vd, fn, fu, fp, D, hb, hl⟩ := h
  exact ⟨⟨vn, vu, vp, vd, fn, fu, fp, D, hb.set 0 _ (by simp [rdA]), hl.setB hb 0 _⟩, rd_gr hb 0 _⟩
theorem RsP.put1 {rb : Nat} {W : World} {rest : ByteArray} {cnt next m : Nat} {av : Option Nat} {p : Ap} (h : RsP rb W rest cnt next p m av) (x : Nat) : RsP rb (W.setCell ⟨rb, 1, none⟩ (.int .i64 x)) rest x next p m av ∧ FrR rb W (W.setCell ⟨rb, 1, none⟩ (.int .i64 x)) := by
  obtain ⟨vn, vu, vp, vd, fn, fu, fp, D, hb, hl⟩ := h
  exact ⟨⟨vn, vu, vp, vd, fn, fu, fp, D, hb.set 1 _ (by simp [rdA]), hl.setB hb 1 _⟩, rd_gr hb 1 _⟩
theorem RsP.put2 {rb : Nat} {W : World} {rest : ByteArray} {cnt next m : Nat} {av : Option Nat} {p : Ap} (h : RsP rb W rest cnt next p m av) (x : Nat) : RsP rb (W.setCell ⟨rb, 2, none⟩ (.int .i64 x)) rest cnt x p m av ∧ FrR rb W (W.setCell ⟨rb, 2, none⟩ (.int .i64 x)) := by
  obtain ⟨vn, vu, vp, vd, fn, fu, fp, D, hb, hl⟩ := h
  exact ⟨⟨vn, vu, vp, vd, fn, fu, fp, D, hb.set 2 _ (by simp [rdA]), hl.setB hb 2 _⟩, rd_gr hb 2 _⟩
theorem sr_tail0 {w : World} {xb n : Nat} {u : ByteArray} {ss : List ByteArray} (h : SR w (some ⟨xb, 0, none⟩) n 1 (u :: ss)) : SR w (some ⟨xb, 0, none⟩) (n - 1) 0 ss := by
  obtain ⟨h1, h2, h3, h4, h5⟩ := h
  simp only [List.length_cons] at h2
  have := h1.2.1
  exact ⟨⟨fun e => (by cases e), by omega, by unfold maxLen; omega⟩, by omega, by omega, fun s hs => h4 s (List.mem_cons_of_mem _ hs), .inl (by omega)⟩
set_option maxRecDepth 100000 in
set_option maxHeartbeats 400000 in
theorem takeL_any {w : World} {rb cnt next m : Nat} {av : Option Nat} {rest : ByteArray} {p : Ap} {xb n c : Nat} {w0 : ByteArray} {ws : List ByteArray} (h : RsP rb w rest cnt next p m av) (hav : ∀ z, av = some z → z < w.heap.size) (hs : SR w (some ⟨xb, 0, none⟩) n c (w0 :: ws)) (hx : rb ≠ xb) (hn : n ≤ 16777216) (hz : ∀ s ∈ w0 :: ws, s.size ≤ 16777216) (hG : ∀ W, Below rb w W → GlA W) (hm : m ≤ 16777216) (h7 : next ≤ 7) :
    Calls Tryz.prog 35 #[.pointer (some ⟨rb, 0, none⟩), .slice (some ⟨xb, 0, none⟩) n c] w fun e w' => TkG rb rest cnt (m + 1) av (apLine (next, p) w0 ws) w e w' := by
  have hl := h.head.2.2.2
  have len := hs.2.1
  simp only [List.length_cons] at len
  obtain ⟨hxb, c0⟩ : xb < w.heap.size ∧ w.cell? ⟨xb, 0, none⟩ = some (.string w0) := by
    rcases hs.2.2.2.2 with q | ⟨b, o, e, q1, q2⟩
    · omega
    · injection e with e
      injection e with e1 e2
      subst e1 e2
      have := q2 0 (by omega) 0 (by omega)
      exact ⟨q1, by simpa using this⟩
  have n0 : (0 : Int) < (n : Int) := by omega
  have n1 : (1 : Int) ≤ (n : Int) := by omega
  have nc : n ≤ c := hs.1.2.1
  have g0 := hG w (Below.refl _ _)
  have H := Lib.hid h
  have HS := Lib.hid hs
  have HZ := Lib.hid hz
  have HG := Lib.hid hG
  have HX := Lib.hid hx
  have HV := Lib.hid hav
  have LN := Lib.hid g0.ln
  have BL := Lib.hid (fun W (b : Below w.heap.size w W) => (b.mono (Nat.le_of_lt hl) : Below rb w W))
  have n1' : n - 1 ≤ 16777216 := by omega
  rcases lnE_hdI w0 with ⟨k, hk, ek, hF⟩ | ⟨nk, hF⟩
  · have KL := Lib.hid (lineOf_any w0 _ _ hF w LN.out)
    clear hF
    have e0 : apLine (next, p) w0 ws = if mayC next k = true then ((if 3 ≤ k then apNum k ws p else apList k ws p).map fun q => (min (k + 1) 7, q)) else none := by
      unfold apLine
      rw [ek, if_pos hk]
    rw [e0]
    clear e0
    have KM := Lib.hid (fun W (b : Below w.heap.size w W) => mayCome_any rb next k W (H.out.later b).head.2.2.1.1 (by omega) (by omega) (HG.out W (BL.out W b)).ln)
    cases hmc : mayC next k with
    | false =>
      rw [hmc] at KM
      rw [if_neg (by simp)]
      clear hG g0 h hs hz hx hxb len hav hmc
      go_enter Tryz.func35, Tryz.ntmps35
      go_wp2_with (first
        | (go_at_call 67; refine KL.out.mono ?_; rintro e w1 ⟨rfl, h2⟩; have B1 := Lib.hid h2; clear h2)
        | (go_at_call 36; refine (KM.out _ B1.out).mono ?_; rintro e w2 ⟨rfl, rfl⟩))
      go_ret
      exact ⟨rfl, ⟨FrR.below B1.out, (H.out.later B1.out).head.2.1.1⟩, fun q hq => by cases hq⟩
    | true =>
      rw [hmc] at KM
      rw [if_pos rfl]
      clear hmc
      have TL : (n = 1 ∧ c = 1 ∧ RowKit.Hid (∀ W, SR W (some ⟨xb, 0, none⟩) n c (w0 :: ws) → SR W (some ⟨xb, 0, none⟩) 0 0 ws)) ∨ (1 < c ∧ RowKit.Hid (∀ W, SR W (some ⟨xb, 0, none⟩) n c (w0 :: ws) → SR W (some ⟨xb, 1, none⟩) (n - 1) (c - 1) ws)) := by
        rcases (show c = 1 ∨ 1 < c by omega) with rfl | q
        · obtain rfl : n = 1 := by omega
          exact .inl ⟨rfl, rfl, fun W => sr_tail0⟩
        · exact .inr ⟨q, fun W => sr_tail⟩
      have P2 := Lib.hid (fun W (b : Below w.heap.size w W) => (H.out.later b).put2 (min (k + 1) 7))
      have F2 := Lib.hid (fun W (b : Below w.heap.size w W) => (FrR.below (rb := rb) b).trans (P2.out W b).2)
      have G2 := Lib.hid (fun W (b : Below w.heap.size w W) => HG.out _ ((F2.out W b).bel (Nat.le_of_lt hl)))
      have S2 := Lib.hid (fun W (b : Below w.heap.size w W) => sr_setQ (j := 2) (v := .int .i64 ((min (k + 1) 7 : Nat) : Int)) (HS.out.later b) hx)
      obtain ⟨nx, hnx⟩ : ∃ x, min (k + 1) 7 = x := ⟨_, rfl⟩
      have mn : (min ((k : Int) + 1) 7) = (nx : Int) := by omega
      rw [hnx] at P2 F2 G2 S2 ⊢
      by_cases k3 : 3 ≤ k
      · rw [if_pos k3]
        have k3' : (3 : Int) ≤ (k : Int) := by omega
        obtain ⟨O, hO⟩ : ∃ O, apNum k ws p = O := ⟨_, rfl⟩
        have KT := Lib.hid (fun W (b : Below w.heap.size w W) (x' : Addr) (n' c' : Nat) (q : SR (W.setCell ⟨rb, 2, none⟩ (.int .i64 (nx : Int))) (some x') n' c' ws) => takeNumber_any k k3 hk (P2.out W b).1 q (fun s q => HZ.out s (List.mem_cons_of_mem _ q)) (G2.out W b).pw (G2.out W b).ev hm)
        rw [hO] at KT ⊢
        have HO := Lib.hid (p := (O.map fun q => (nx, q)).isSome = O.isSome) (by simp)
        clear hG g0 h hs hz hx hxb len hav hnx hO
        rcases TL with ⟨rfl, rfl, TL⟩ | ⟨c1, TL⟩
        all_goals
          go_enter Tryz.func35, Tryz.ntmps35
          go_wp2_with (first
            | (go_at_call 67; refine KL.out.mono ?_; rintro e w1 ⟨rfl, h2⟩; have B1 := Lib.hid h2; clear h2)
            | (go_at_call 36; refine (KM.out _ B1.out).mono ?_; rintro e w2 ⟨rfl, rfl⟩; have c2 := (H.out.later B1.out).head.2.2.1.1; have f2 := (H.out.later B1.out).head.2.2.1.2)
            | (go_at_call 69; refine (KT.out _ B1.out _ _ _ (TL.out _ (S2.out _ B1.out))).mono ?_; rintro e w3 ⟨rfl, ⟨h3, h5⟩, h4⟩; have C3 := Lib.hid h5; have F3 := Lib.hid ((F2.out _ B1.out).trans h3); have R3 := Lib.hid h4; clear h3 h4 h5))
          go_ret
          refine ⟨by show Ending.returned (Value.bool O.isSome) = _; rw [HO.out], ⟨F3.out, C3.out⟩, fun q hq => ?_⟩
          obtain ⟨q', e1, rfl⟩ := Option.map_eq_some_iff.1 hq
          exact R3.out q' e1
      · rw [if_neg k3]
        have k3' : ¬ (3 : Int) ≤ (k : Int) := by omega
        obtain ⟨O, hO⟩ : ∃ O, apList k ws p = O := ⟨_, rfl⟩
        have KT := Lib.hid (fun W (b : Below w.heap.size w W) (x' : Addr) (n' c' : Nat) (hn' : n' ≤ 16777216) (q : SR (W.setCell ⟨rb, 2, none⟩ (.int .i64 (nx : Int))) (some x') n' c' ws) => takeList_any k (by omega) (P2.out W b).1 (fun z e => Nat.lt_of_lt_of_le (HV.out z e) (F2.out W b).size) q hn' (fun s q => HZ.out s (List.mem_cons_of_mem _ q)) (G2.out W b).pw (G2.out W b).ev)
        rw [hO] at KT ⊢
        have HO := Lib.hid (p := (O.map fun q => (nx, q)).isSome = O.isSome) (by simp)
        clear hG g0 h hs hz hx hxb len hav hnx hO
        rcases TL with ⟨rfl, rfl, TL⟩ | ⟨c1, TL⟩
        all_goals
          go_enter Tryz.func35, Tryz.ntmps35
          go_wp2_with (first
            | (go_at_call 67; refine KL.out.mono ?_; rintro e w1 ⟨rfl, h2⟩; have B1 := Lib.hid h2; clear h2)
            | (go_at_call 36; refine (KM.out _ B1.out).mono ?_; rintro e w2 ⟨rfl, rfl⟩; have c2 := (H.out.later B1.out).head.2.2.1.1; have f2 := (H.out.later B1.out).head.2.2.1.2)
            | (go_at_call 70; refine (KT.out _ B1.out _ _ _ (by omega) (TL.out _ (S2.out _ B1.out))).mono ?_; rintro e w3 ⟨rfl, ⟨h3, h5⟩, h4⟩; have C3 := Lib.hid h5; have F3 := Lib.hid ((F2.out _ B1.out).trans h3); have R3 := Lib.hid h4; clear h3 h4 h5))
          go_ret
          refine ⟨by show Ending.returned (Value.bool O.isSome) = _; rw [HO.out], ⟨F3.out, C3.out⟩, fun q hq => ?_⟩
          obtain ⟨q', e1, rfl⟩ := Option.map_eq_some_iff.1 hq
          exact R3.out q' e1
  · have KL := Lib.hid (lineOf_any w0 _ _ hF w LN.out)
    have e0 : apLine (next, p) w0 ws = (apIns p w0 ws).map fun q => (next, q) := by
      unfold apLine apIns
      rw [if_neg nk]
      simp only
      split
      · rfl
      · rw [Option.map_map]; rfl
    rw [e0]
    obtain ⟨O, hO⟩ : ∃ O, apIns p w0 ws = O := ⟨_, rfl⟩
    have KT := Lib.hid (fun W (b : Below w.heap.size w W) => takeInstr_any (H.out.later b) (HS.out.later b) HZ.out (HG.out W (BL.out W b)).rw_ (HG.out W (BL.out W b)).md (HG.out W (BL.out W b)).pw (HG.out W (BL.out W b)).ev hm)
    rw [hO] at KT ⊢
    have HO := Lib.hid (p := (O.map fun q => (next, q)).isSome = O.isSome) (by simp)
    clear hG g0 h hs hz hx hxb len hav hO e0 hF
    go_enter Tryz.func35, Tryz.ntmps35
    go_wp2_with (first
      | (go_at_call 67; refine KL.out.mono ?_; rintro e w1 ⟨rfl, h2⟩; have B1 := Lib.hid h2; clear h2)
      | (go_at_call 68; refine (KT.out _ B1.out).mono ?_; rintro e w3 ⟨rfl, ⟨h3, h5⟩, h4⟩; have C3 := Lib.hid h5; have F3 := Lib.hid ((FrR.below (rb := rb) B1.out).trans h3); have R3 := Lib.hid h4; clear h3 h4 h5))
    go_ret
    refine ⟨by show Ending.returned (Value.bool O.isSome) = _; rw [HO.out], ⟨F3.out, C3.out⟩, fun q hq => ?_⟩
    obtain ⟨q', e1, rfl⟩ := Option.map_eq_some_iff.1 hq
    exact R3.out q' e1
end Go.Proofs.YtccjeipkljdhdaaGreatDoor

namespace Go.Proofs.YtccjeipkljdhdaaGreatDoor
open Go.RowKit
set_option linter.unusedVariables false
set_option linter.unusedSimpArgs false

theorem yb_ext {s : ByteArray} {pos i : Nat} (h : pos ≤ s.size) : yb (s.extract pos s.size) i = yb s (pos + i) := by
  have e : (s.extract pos s.size).size = s.size - pos := by rw [ByteArray.size_extract]; omega
  by_cases q : i < s.size - pos
  · have q1 : i < (s.extract pos s.size).size := by omega
    have q2 : pos + i < s.size := by omega
    rw [yb_lt q1, yb_lt q2]
    rw [ByteArray.getElem_extract]
  · unfold yb
    rw [dif_neg (by omega), dif_neg (by omega)]
theorem fy_ext {p : Int → Bool} {s : ByteArray} {pos : Nat} (h : pos ≤ s.size) : ∀ (n i : Nat), (s.extract pos s.size).size - i = n → pos + fy p (s.extract pos s.size) i = fy p s (pos + i)
  | 0, i, hn => by
    have e : (s.extract pos s.size).size = s.size - pos := by rw [ByteArray.size_extract]; omega
    rw [fy_stop (fun q => by omega), fy_stop (fun q => by omega)]
  | n + 1, i, hn => by
    have e : (s.extract pos s.size).size = s.size - pos := by rw [ByteArray.size_extract]; omega
    have y := yb_ext (i := i) h
    by_cases q : p (yb s (pos + i)) = true
    · rw [fy_go (by omega) (by rw [y]; exact q), fy_go (show pos + i < s.size by omega) q, fy_ext h n (i + 1) (by omega), Nat.add_assoc]
    · rw [fy_stop (fun k => q (by rw [← y]; exact k.2)), fy_stop (fun k => q k.2)]
/-- The lines of a text, cut off one by one. -/
def lnsR (t : ByteArray) : List ByteArray :=
  if h : 0 < t.size then t.extract 0 (fy lfA t 0) :: lnsR (t.extract (fy lfA t 0 + 1) t.size) else []
termination_by t.size
decreasing_by
  rw [ByteArray.size_extract]
  omega
theorem lns_ext {s : ByteArray} : ∀ (n pos : Nat), s.size - pos = n → pos ≤ s.size → lnsR (s.extract pos s.size) = lnsL s pos := by
  intro n
  induction n using Nat.strongRecOn with
  | _ n ih =>
    intro pos hn h
    have e : (s.extract pos s.size).size = s.size - pos := by rw [ByteArray.size_extract]; omega
    have f0 := fy_ext (p := lfA) h _ 0 rfl
    rw [Nat.add_zero] at f0
    have ge := fy_ge lfA s pos
    rw [lnsR, lnsL]
    by_cases q : pos < s.size
    · have le := fy_le (p := lfA) (s := s) (i := pos) h
      rw [dif_pos (by omega), dif_pos q, ByteArray.extract_extract, ByteArray.extract_extract, e]
      rw [show pos + 0 = pos by omega, show min (pos + fy lfA (s.extract pos s.size) 0) s.size = fy lfA s pos by omega, show pos + (fy lfA (s.extract pos s.size) 0 + 1) = fy lfA s pos + 1 by omega, show min (pos + (s.size - pos)) s.size = s.size by omega]
      congr 1
      by_cases z : fy lfA s pos + 1 ≤ s.size
      · exact ih _ (by omega) _ rfl z
      · have z1 : (s.extract (fy lfA s pos + 1) s.size).size = 0 := by rw [ByteArray.size_extract]; omega
        rw [lnsR, dif_neg (by omega), lnsL, dif_neg (by omega)]
    · rw [dif_neg (by omega), dif_neg q]
theorem lns_all (s : ByteArray) : lnsR s = lnsL s 0 := by
  have := lns_ext (s := s) _ 0 rfl (Nat.zero_le _)
  rwa [ByteArray.extract_zero_size] at this
theorem yb_list {t : ByteArray} {k : Nat} : (yb t k = 10) ↔ t.data.toList[k]? = some 10 := by
  by_cases h : k < t.size
  · rw [yb_lt h]
    have e : t.data.toList[k]? = some t[k] := by
      rw [Array.getElem?_toList]
      exact Array.getElem?_eq_getElem h
    rw [e]
    constructor
    · intro q
      have : t[k].toNat = 10 := by omega
      congr 1
      exact UInt8.toNat_inj.1 (by rw [this]; rfl)
    · intro q
      injection q with q
      rw [q]
      rfl
  · have e : t.data.toList[k]? = none := by
      rw [List.getElem?_eq_none_iff]
      exact Nat.le_of_not_lt h
    rw [e]
    unfold yb
    rw [dif_neg h]
    simp
theorem idx_none : ∀ {l : List UInt8} {c : UInt8}, Lib.indexByte l c = -1 → ∀ k : Nat, l[k]? ≠ some c
  | [], c, _, k => by simp
  | x :: l, c, h, k => by
    have g := Lib.indexByte_ge l c
    simp only [Lib.indexByte] at h
    split at h
    · cases h
    · rename_i q
      have r : Lib.indexByte l c = -1 := by
        split at h
        · rename_i z; simpa using z
        · omega
      match k with
      | 0 => intro e; simp at e; simp [e] at q
      | k + 1 => simpa using idx_none r k
theorem idx_some : ∀ {l : List UInt8} {c : UInt8} {o : Nat}, Lib.indexByte l c = o → l[o]? = some c ∧ ∀ k : Nat, k < o → l[k]? ≠ some c
  | [], c, o, h => by simp [Lib.indexByte] at h
  | x :: l, c, o, h => by
    have g := Lib.indexByte_ge l c
    simp only [Lib.indexByte] at h
    split at h
    · rename_i q
      obtain rfl : o = 0 := by omega
      exact ⟨by simpa using q, fun k hk => by omega⟩
    · rename_i q
      split at h
      · omega
      · rename_i z
        have z' : Lib.indexByte l c ≠ -1 := by simpa using z
        match o, h with
        | o + 1, h =>
          obtain ⟨a, b⟩ := idx_some (l := l) (c := c) (o := o) (by omega)
          refine ⟨by simpa using a, fun k hk => ?_⟩
          match k with
          | 0 => intro e; simp at e; simp [e] at q
          | k + 1 => simpa using b k (by omega)
        | 0, h => omega
theorem idx_fy (t : ByteArray) : (fy lfA t 0 < t.size ∧ Lib.indexByte t.data.toList 10 = (fy lfA t 0 : Int)) ∨ (fy lfA t 0 = t.size ∧ Lib.indexByte t.data.toList 10 = -1) := by
  have g := Lib.indexByte_ge t.data.toList 10
  have out := fy_out lfA t 0
  have le := fy_le (p := lfA) (s := t) (i := 0) (Nat.zero_le _)
  have lf : ∀ k, lfA (yb t k) = true ↔ t.data.toList[k]? ≠ some 10 := fun k => by
    have y := yb_list (t := t) (k := k)
    simp only [lfA, bne_iff_ne, ne_eq, y]
  by_cases q : Lib.indexByte t.data.toList 10 = -1
  · right
    refine ⟨?_, q⟩
    have := (lf (fy lfA t 0)).2 (idx_none q _)
    have : ¬ fy lfA t 0 < t.size := fun z => out ⟨z, this⟩
    omega
  · left
    obtain ⟨o, ho⟩ : ∃ o : Nat, Lib.indexByte t.data.toList 10 = (o : Int) := ⟨(Lib.indexByte t.data.toList 10).toNat, by omega⟩
    obtain ⟨h1, h2⟩ := idx_some ho
    have lt : o < t.size := (List.getElem?_eq_some_iff.1 h1).1
    have e : fy lfA t 0 = o := by
      rw [fy_run (p := lfA) (s := t) (i := 0) o (fun j hj => ⟨by omega, (lf (0 + j)).2 (by rw [Nat.zero_add]; exact h2 j hj)⟩), Nat.zero_add]
      exact fy_stop (fun z => absurd h1 ((lf o).1 z.2))
    rw [e]
    exact ⟨lt, ho⟩
set_option maxRecDepth 100000 in
set_option maxHeartbeats 1000000 in
theorem cutIn_any (t : ByteArray) (ht : t.size ≤ 16777216) (w : World) :
    Calls Tryz.prog 94 #[.string t, .string ⟨#[10]⟩] w fun e w' => e = .returned (.tuple #[.string (t.extract 0 (fy lfA t 0)), .string (t.extract (fy lfA t 0 + 1) t.size), .bool (decide (fy lfA t 0 < t.size))]) ∧ Below w.heap.size w w' := by
  have KI := Lib.hid (fun W => Tryz.stringslite_Index_one t 10 W)
  rcases idx_fy t with ⟨h1, h2⟩ | ⟨h1, h2⟩
  · rw [h2] at KI
    rw [decide_eq_true h1]
    generalize fy lfA t 0 = k at *
    have k0 : (0 : Int) ≤ (k : Int) := by omega
    have k1 : (k : Int) ≤ (t.size : Int) := by omega
    have k2 : (k : Int) + 1 ≤ (t.size : Int) := by omega
    clear h2
    go_enter Tryz.func94, Tryz.ntmps94
    go_wp2_with (go_at_call 114; refine (KI.out _).mono ?_; rintro e w1 ⟨rfl, rfl⟩)
    go_region
    all_goals
      go_wp2
      go_ret3
      exact ⟨rfl, (Below.refl _ _).drew⟩
  · rw [h2] at KI
    rw [h1]
    have e1 : t.extract 0 t.size = t := ByteArray.extract_zero_size
    have e2 : t.extract (t.size + 1) t.size = ⟨#[]⟩ := by
      have : (t.extract (t.size + 1) t.size).size = 0 := by rw [ByteArray.size_extract]; omega
      exact ByteArray.size_eq_zero_iff.1 this
    rw [e1, e2, decide_eq_false (by omega)]
    clear h1 h2 e1 e2
    go_enter Tryz.func94, Tryz.ntmps94
    go_wp2_with (go_at_call 114; refine (KI.out _).mono ?_; rintro e w1 ⟨rfl, rfl⟩)
    go_ret3
    exact ⟨rfl, Below.refl _ _⟩
end Go.Proofs.YtccjeipkljdhdaaGreatDoor
