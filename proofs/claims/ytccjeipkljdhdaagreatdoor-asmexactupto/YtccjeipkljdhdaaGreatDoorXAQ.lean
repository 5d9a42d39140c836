import Derived.Test.YtccjeipkljdhdaaGreatDoorXAP
import Derived.Deep.RegionLaw
import Derived.Deep.AppendLies
namespace Go.Proofs.YtccjeipkljdhdaaGreatDoor
open Go.RowKit
set_option linter.unusedVariables false
set_option linter.unusedSimpArgs false

/-- Rows of the call's own, as lists that came in. -/
theorem flat_at {α : Type} [Inhabited α] (f : α → List Value) (k : Nat) (hf : ∀ x, (f x).length = k) (l : List α) : ∀ i, i < l.length → ∀ j, j < k → (l.flatMap f)[i * k + j]? = some ((f (l.getD i default)).getD j default) := by
  induction l with
  | nil => intro i hi; simp at hi
  | cons x r ih =>
    intro i hi j hj
    rw [List.flatMap_cons]
    match i with
    | 0 =>
      rw [Nat.zero_mul, Nat.zero_add, List.getElem?_append_left (by rw [hf]; exact hj), List.getElem?_eq_getElem (by rw [hf]; exact hj)]
      simp [List.getD, hf x, hj]
    | i + 1 =>
      rw [List.getElem?_append_right (by rw [hf, Nat.succ_mul]; omega), hf, show (i + 1) * k + j - k = i * k + j by rw [Nat.succ_mul]; omega, ih i (by simpa using hi) j hj]
      simp [List.getD]
theorem own_hdQ {W : World} {B s n c : Nat} {e : TypeId} {a : Option Addr} {xs : List Value} (h : W.ownsRow B e s (.slice a n c) n xs) : Hd a n c := by
  rcases h.2 with ⟨q, _⟩ | ⟨g, cap, cur, q, _, hg, h1, h2, _⟩
  · injection q with q1 q2 q3
    subst q1 q2 q3
    exact ⟨fun _ => ⟨rfl, rfl⟩, Nat.le_refl _, by unfold maxLen; omega⟩
  · injection q with q1 q2 q3
    subst q1 q3
    exact ⟨(fun q => by cases q), h1, h2⟩
theorem own_rowQ {W : World} {B s n c : Nat} {e : TypeId} {a : Option Addr} {xs : List Value} (h : W.ownsRow B e s (.slice a n c) n xs) (V : Nat → List Value) (hV : ∀ i, i < n → ∀ j, j < s → xs[i * s + j]? = some ((V i).getD j default)) : Row W a n s V := by
  rcases h.2 with ⟨q, q0⟩ | ⟨g, cap, cur, q, _, hg, _⟩
  · exact .inl q0
  · injection q with q1 q2 q3
    subst q1 q3
    refine .inr ⟨g, 0, rfl, (Array.getElem?_eq_some_iff.1 hg).1, fun i hi j hj => ?_⟩
    have := h.cells (g := g) rfl (i * s + j) _ (hV i hi j hj)
    rw [Go.Addr.add_lit, Nat.zero_add] at this
    rw [Nat.zero_add]
    exact this
theorem own_sr {W : World} {B c : Nat} {a : Option Addr} {ss : List ByteArray} (h : OwQ W B (.slice a ss.length c) ss) (h1 : ss.length ≤ 8796093021952) (h2 : ∀ s ∈ ss, s.size ≤ 140737488351232) : SR W a ss.length c ss :=
  ⟨own_hdQ h, rfl, h1, h2, own_rowQ h _ (fun i hi j hj => by
    obtain rfl : j = 0 := by omega
    simp [List.getD, hi])⟩
theorem own_nr {W : World} {B c : Nat} {a : Option Addr} {l : List Int} (h : OwZs W B (.slice a l.length c) l) (h1 : l.length ≤ 17592186043904) (h2 : ∀ s ∈ l, i64 s) : NR W a l.length c l :=
  ⟨own_hdQ h, rfl, h1, h2, own_rowQ h _ (fun i hi j hj => by
    obtain rfl : j = 0 := by omega
    simp [intsP, List.getD, hi])⟩
theorem own_ir {W : World} {B c : Nat} {a : Option Addr} {l : List In} (h : W.ownsRow B 42 3 (.slice a l.length c) l.length (icsP l)) (h1 : l.length ≤ 5864062014634) (h2 : ∀ i ∈ l, i64 i.o ∧ i64 i.a ∧ i64 i.b) : IR W a l.length c l :=
  ⟨own_hdQ h, rfl, h1, h2, own_rowQ h _ (fun i hi j hj => flat_at icell 3 (fun _ => rfl) l i hi j hj)⟩
theorem own_gl {W : World} {B c : Nat} {a : Option Addr} {l : List Sg} (h : W.ownsRow B 39 2 (.slice a l.length c) l.length (sgsP l)) (h1 : l.length ≤ 4398046510976) (h2 : ∀ s ∈ l, GV W s) : GL W a l.length c l :=
  ⟨own_hdQ h, rfl, h1, h2, own_rowQ h _ (fun i hi j hj => flat_at Sg.cs 2 (fun _ => rfl) l i hi j hj)⟩
/-- An own list is a slice. -/
theorem own_slQ {W : World} {B s n : Nat} {e : TypeId} {v : Value} {xs : List Value} (h : W.ownsRow B e s v n xs) : ∃ a c, v = .slice a n c := by
  rcases h.2 with ⟨q, q0⟩ | ⟨g, cap, cur, q, _⟩
  · exact ⟨none, 0, by rw [q, q0]⟩
  · exact ⟨_, _, q⟩
theorem own_newQ {w w1 : World} {B' s n s' n' : Nat} {e e' : TypeId} {v v' : Value} {xs xs' : List Value} (h : w1.ownsRow w.heap.size e s v n xs) (h' : w.ownsRow B' e' s' v' n' xs') : v.ownBlock = none ∨ v.ownBlock ≠ v'.ownBlock := by
  cases q : v.ownBlock with
  | none => exact .inl rfl
  | some z =>
    refine .inr (fun e => ?_)
    have a := (h.lt z q).1
    have b := (h'.lt z e.symm).2
    omega
theorem own_oldQ {w w1 : World} {B' s n s' n' : Nat} {e e' : TypeId} {v v' : Value} {xs xs' : List Value} (h : w1.ownsRow w.heap.size e s v n xs) (h' : w.ownsRow B' e' s' v' n' xs') : v'.ownBlock = none ∨ v'.ownBlock ≠ v.ownBlock := by
  cases q : v'.ownBlock with
  | none => exact .inl rfl
  | some z =>
    refine .inr (fun e => ?_)
    have a := (h.lt z e.symm).1
    have b := (h'.lt z q).2
    omega
theorem inR_i64Q {v : Int} (h : inR v) : i64 v := by unfold inR at h; simp [i64, Lit.wf, IntKind.min, IntKind.max, IntKind.bits, IntKind.signed]; omega
theorem own_monoQ {W : World} {B B' s n : Nat} {e : TypeId} {v : Value} {xs : List Value} (h : W.ownsRow B e s v n xs) (k : B' ≤ B) : W.ownsRow B' e s v n xs := ⟨h.1, h.2.imp_right fun ⟨g, cap, cur, e1, e2, e3⟩ => ⟨g, cap, cur, e1, Nat.le_trans k e2, e3⟩⟩
theorem own_belQ {W W' : World} {B s n : Nat} {e : TypeId} {v : Value} {xs : List Value} (h : W.ownsRow B e s v n xs) (b : Below W.heap.size W W') : W'.ownsRow B e s v n xs := row_farP h (gr_below b none) (fun k q e => by cases e)
theorem own_setQ {W : World} {B s n rb j : Nat} {e : TypeId} {v u : Value} {xs : List Value} (h : W.ownsRow B e s v n xs) (hb : rb < B) : (W.setCell ⟨rb, j, none⟩ u).ownsRow B e s v n xs := row_farP h (setCell_gr W rb j u) (fun k q e e2 => by injection e with e; have := (h.lt q e2).1; omega)
theorem own_avQ {W : World} {B s n : Nat} {e : TypeId} {v : Value} {xs : List Value} {av : Option Nat} (h : W.ownsRow B e s v n xs) (k : ∀ z, av = some z → z < B) : av = none ∨ v.ownBlock ≠ av := by
  rcases av with _ | z
  · exact .inl rfl
  · exact .inr (fun e => by have := (h.lt z e).1; have := k z rfl; omega)
set_option maxRecDepth 100000 in
set_option maxHeartbeats 4000000 in
theorem takeList_any {w : World} {rb cnt next m : Nat} {av : Option Nat} {rest : ByteArray} {p : Ap} {x : Addr} {n c : Nat} {ws : List ByteArray} (k : Nat) (hk : k < 3) (h : RsP rb w rest cnt next p m av) (hav : ∀ z, av = some z → z < w.heap.size) (hs : SR w (some x) n c ws) (hn : n ≤ 16777216) (hz : ∀ s ∈ ws, s.size ≤ 16777216) (ht : Pows w) (hE : Ev w) :
    Calls Tryz.prog 70 #[.pointer (some ⟨rb, 0, none⟩), .int .i64 (k : Int), .slice (some x) n c] w fun e w' => TkQ rb rest cnt next (m + 1) av (apList k ws p) w e w' := by
  obtain ⟨vn, vu, vp, vd, fn, fu, fp, D, hb, hl⟩ := h
  have wl := hs.2.1
  have HB := Lib.hid hb
  have HL := Lib.hid hl
  have HZ := Lib.hid (p := ∀ s ∈ ws, s.size ≤ 140737488351232) (fun s q => Nat.le_trans (hz s q) (by omega))
  have e8 : n ≤ 8796093021952 := by omega
  have WL := Lib.hid wl
  have HV := Lib.hid hav
  have nz : decide (0 < n) = !(decide (ws = [])) := by
    cases ws with
    | nil => simp at wl; subst wl; rfl
    | cons u l => simp at wl; simp; omega
  have nil0 : ∀ o : Option Ap, (if ws = [] then none else o).isSome = (!(decide (ws = [])) && o.isSome) := fun o => by by_cases q : ws = [] <;> simp [q]
  have KC := Lib.hid (textsC_any hs (by simp) hn)
  have KU := Lib.hid (textsU_any hs (by simp) hn)
  have KP := Lib.hid (valuesOf_any hs hn hz ht hE)
  have FS := Lib.hid (fun (W : World) (a : Option Addr) (c : Nat) (q : SR W a ws.length c ws) => firstS_any q (by rw [WL.out]; exact hn))
  clear hb hl hs hz ht hE wl hav
  rcases (show k = 0 ∨ k = 1 ∨ k = 2 by omega) with rfl | rfl | rfl
  · have e0 : apList 0 ws p = if ws = [] then none else (if ws.all capP = true then some { p with ns := ws } else none) := by simp [apList]
    have e1 : (apList 0 ws p).isSome = (!(decide (ws = [])) && ws.all capP) := by
      rw [e0, nil0]
      congr 1
      cases ws.all capP <;> rfl
    unfold TkQ
    rw [e1]
    have HQ := Lib.hid (p := ∀ q, apList 0 ws p = some q → q = { p with ns := ws }) (fun q e => by
      rw [e0] at e
      split at e
      · cases e
      · split at e
        · injection e with e; exact e.symm
        · cases e)
    clear e0 e1 nil0
    obtain ⟨BB, hBB⟩ : ∃ b, ws.all capP = b := ⟨_, rfl⟩
    rw [hBB] at KC ⊢
    obtain ⟨EE, hEE⟩ : ∃ b, decide (ws = []) = b := ⟨_, rfl⟩
    rw [hEE] at nz ⊢
    have NZ := Lib.hid nz
    clear hBB hEE nz
    cases BB
    all_goals
      go_enter Tryz.func70, Tryz.ntmps70
      go_wp2_with (first
        | (go_at_call 97; refine KC.out.mono ?_; rintro e w1 ⟨v, rfl, ho, h2⟩; obtain ⟨a1, c1, rfl⟩ := own_slQ ho; have RL := Lib.hid (HL.out.later h2); have BK := Lib.hid (HB.out.belw h2); have F1 := Lib.hid (FrR.below (rb := rb) h2); have AN := Lib.hid (p := av = none ∨ (Value.slice a1 ws.length c1).ownBlock ≠ av) (own_avQ ho HV.out); have NU := Lib.hid (p := (Value.slice a1 ws.length c1).ownBlock = none ∨ (Value.slice a1 ws.length c1).ownBlock ≠ vu.ownBlock) (own_newQ ho HL.out.ou); have O1 := Lib.hid (p := OwQ w1 (rb + 1) (.slice a1 ws.length c1) ws) (own_monoQ ho (show rb + 1 ≤ w.heap.size from HL.out.sz)); have c3 := BK.out.cell 3; simp only [rdA, List.getElem?_toArray, List.getElem?_cons_zero, List.getElem?_cons_succ] at c3; have f3 := BK.out.frozen 3; have BK2 := Lib.hid (BK.out.set 3 (.slice a1 ws.length c1) (by simp [rdA])); have RL2 := Lib.hid (RL.out.setB BK.out 3 (.slice a1 ws.length c1)); have F2 := Lib.hid (F1.out.trans (rd_gr BK.out 3 (.slice a1 ws.length c1))); have S2 := Lib.hid (p := OwQ (w1.setCell ⟨rb, 3, none⟩ (.slice a1 ws.length c1)) (rb + 1) (.slice a1 ws.length c1) ws) (own_setQ O1.out (by omega)); have FX := Lib.hid (FS.out (w1.setCell ⟨rb, 3, none⟩ (.slice a1 ws.length c1)) a1 c1 (own_sr S2.out (by rw [WL.out]; exact e8) HZ.out)); clear ho h2)
        | (go_at_call 98; refine FX.out.mono ?_; rintro e w3 ⟨mb, rfl, hm3, h3⟩; have BK3 := Lib.hid (BK2.out.belw h3); have RL3 := Lib.hid (RL2.out.later h3); have F3 := Lib.hid (F2.out.trans (FrR.below h3)); have S3 := Lib.hid (own_belQ S2.out h3); have M3 := Lib.hid (p := MpqS w3 (.map (some mb)) (plcW ws)) (.inr ⟨mb, rfl, by obtain ⟨y1, y2, y3, y4, _⟩ := hm3; exact ⟨y1, y2, y3, y4, Nat.zero_le _⟩⟩); have c11 := BK3.out.cell 11; have f11 := BK3.out.frozen 11; simp only [rdA, List.getElem?_toArray, List.set_toArray, List.getElem?_cons_zero, List.getElem?_cons_succ, List.set_cons_zero, List.set_cons_succ] at c11; clear hm3 h3))
      go_ret
      refine ⟨by first | (show Ending.returned (Value.bool (decide (0 < n))) = Ending.returned (Value.bool (!EE && true)); rw [NZ.out, Bool.and_true]) | (show Ending.returned (Value.bool false) = Ending.returned (Value.bool (!EE && false)); rw [Bool.and_false]), ⟨F3.out.trans (rd_gr BK3.out 11 _), (BK3.out.set 11 _ (by simp [rdA])).cell 1⟩, fun q hq => ?_⟩
      obtain rfl := HQ.out q hq
      have RL4 := (RL3.out.setB BK3.out 11 (.map (some mb))).more (Nat.le_succ m)
      have S4 := own_setQ (j := 11) (u := .map (some mb)) S3.out (Nat.lt_succ_self rb)
      have M4 := (rd_gr BK3.out 11 (.map (some mb))).mpqS M3.out
      exact ⟨.slice a1 ws.length c1, vu, vp, vd, .map (some mb), fu, fp, D, BK3.out.set 11 _ (by simp [rdA]), ⟨S4, RL4.ou, RL4.op, RL4.od, RL4.oc, RL4.ap, M4, RL4.mu, RL4.mp, RL4.days, RL4.dl, RL4.cl, RL4.sz, AN.out, RL4.au, NU.out⟩⟩
  · have e0 : apList 1 ws p = if ws = [] then none else (if ws.all curP = true then some { p with cs := ws } else none) := by simp [apList]
    have e1 : (apList 1 ws p).isSome = (!(decide (ws = [])) && ws.all curP) := by
      rw [e0, nil0]
      congr 1
      cases ws.all curP <;> rfl
    unfold TkQ
    rw [e1]
    have HQ := Lib.hid (p := ∀ q, apList 1 ws p = some q → q = { p with cs := ws }) (fun q e => by
      rw [e0] at e
      split at e
      · cases e
      · split at e
        · injection e with e; exact e.symm
        · cases e)
    clear e0 e1 nil0
    obtain ⟨BB, hBB⟩ : ∃ b, ws.all curP = b := ⟨_, rfl⟩
    rw [hBB] at KU ⊢
    obtain ⟨EE, hEE⟩ : ∃ b, decide (ws = []) = b := ⟨_, rfl⟩
    rw [hEE] at nz ⊢
    have NZ := Lib.hid nz
    clear hBB hEE nz
    cases BB
    all_goals
      go_enter Tryz.func70, Tryz.ntmps70
      go_wp2_with (first
        | (go_at_call 97; refine KU.out.mono ?_; rintro e w1 ⟨v, rfl, ho, h2⟩; obtain ⟨a1, c1, rfl⟩ := own_slQ ho; have RL := Lib.hid (HL.out.later h2); have BK := Lib.hid (HB.out.belw h2); have F1 := Lib.hid (FrR.below (rb := rb) h2); have AN := Lib.hid (p := av = none ∨ (Value.slice a1 ws.length c1).ownBlock ≠ av) (own_avQ ho HV.out); have NU := Lib.hid (p := vn.ownBlock = none ∨ vn.ownBlock ≠ (Value.slice a1 ws.length c1).ownBlock) (own_oldQ ho HL.out.on); have O1 := Lib.hid (p := OwQ w1 (rb + 1) (.slice a1 ws.length c1) ws) (own_monoQ ho (show rb + 1 ≤ w.heap.size from HL.out.sz)); have c4 := BK.out.cell 4; simp only [rdA, List.getElem?_toArray, List.getElem?_cons_zero, List.getElem?_cons_succ] at c4; have f4 := BK.out.frozen 4; have BK2 := Lib.hid (BK.out.set 4 (.slice a1 ws.length c1) (by simp [rdA])); have RL2 := Lib.hid (RL.out.setB BK.out 4 (.slice a1 ws.length c1)); have F2 := Lib.hid (F1.out.trans (rd_gr BK.out 4 (.slice a1 ws.length c1))); have S2 := Lib.hid (p := OwQ (w1.setCell ⟨rb, 4, none⟩ (.slice a1 ws.length c1)) (rb + 1) (.slice a1 ws.length c1) ws) (own_setQ O1.out (by omega)); have FX := Lib.hid (FS.out (w1.setCell ⟨rb, 4, none⟩ (.slice a1 ws.length c1)) a1 c1 (own_sr S2.out (by rw [WL.out]; exact e8) HZ.out)); clear ho h2)
        | (go_at_call 98; refine FX.out.mono ?_; rintro e w3 ⟨mb, rfl, hm3, h3⟩; have BK3 := Lib.hid (BK2.out.belw h3); have RL3 := Lib.hid (RL2.out.later h3); have F3 := Lib.hid (F2.out.trans (FrR.below h3)); have S3 := Lib.hid (own_belQ S2.out h3); have M3 := Lib.hid (p := MpqS w3 (.map (some mb)) (plcW ws)) (.inr ⟨mb, rfl, by obtain ⟨y1, y2, y3, y4, _⟩ := hm3; exact ⟨y1, y2, y3, y4, Nat.zero_le _⟩⟩); have c12 := BK3.out.cell 12; have f12 := BK3.out.frozen 12; simp only [rdA, List.getElem?_toArray, List.set_toArray, List.getElem?_cons_zero, List.getElem?_cons_succ, List.set_cons_zero, List.set_cons_succ] at c12; clear hm3 h3))
      go_ret
      refine ⟨by first | (show Ending.returned (Value.bool (decide (0 < n))) = Ending.returned (Value.bool (!EE && true)); rw [NZ.out, Bool.and_true]) | (show Ending.returned (Value.bool false) = Ending.returned (Value.bool (!EE && false)); rw [Bool.and_false]), ⟨F3.out.trans (rd_gr BK3.out 12 _), (BK3.out.set 12 _ (by simp [rdA])).cell 1⟩, fun q hq => ?_⟩
      obtain rfl := HQ.out q hq
      have RL4 := (RL3.out.setB BK3.out 12 (.map (some mb))).more (Nat.le_succ m)
      have S4 := own_setQ (j := 12) (u := .map (some mb)) S3.out (Nat.lt_succ_self rb)
      have M4 := (rd_gr BK3.out 12 (.map (some mb))).mpqS M3.out
      exact ⟨vn, .slice a1 ws.length c1, vp, vd, fn, .map (some mb), fp, D, BK3.out.set 12 _ (by simp [rdA]), ⟨RL4.on, S4, RL4.op, RL4.od, RL4.oc, RL4.ap, RL4.mn, M4, RL4.mp, RL4.days, RL4.dl, RL4.cl, RL4.sz, RL4.an, AN.out, NU.out⟩⟩
  · have e0 : apList 2 ws p = if ws = [] then none else (valsW ws).map fun l => { p with pl := l } := by simp [apList]
    have e1 : (apList 2 ws p).isSome = (!(decide (ws = [])) && (valsW ws).isSome) := by
      rw [e0, nil0]
      simp
    unfold TkQ
    rw [e1]
    have HQ := Lib.hid (p := ∀ q, apList 2 ws p = some q → ∃ l, valsW ws = some l ∧ q = { p with pl := l }) (fun q e => by
      rw [e0] at e
      split at e
      · cases e
      · obtain ⟨l, h1, h2⟩ := Option.map_eq_some_iff.1 e
        exact ⟨l, h1, h2.symm⟩)
    clear e0 e1 nil0
    obtain ⟨BB, hBB⟩ : ∃ b, (valsW ws).isSome = b := ⟨_, rfl⟩
    rw [hBB]
    obtain ⟨EE, hEE⟩ : ∃ b, decide (ws = []) = b := ⟨_, rfl⟩
    rw [hEE] at nz ⊢
    have NZ := Lib.hid nz
    have HBB := Lib.hid hBB
    have FZ := Lib.hid (fun (W : World) (a : Option Addr) (c : Nat) (l : List Int) (hl : l.length ≤ 16777216) (q : NR W a l.length c l) => firstZ_any q hl)
    clear hBB hEE nz
    cases BB
    all_goals
      go_enter Tryz.func70, Tryz.ntmps70
      go_wp2_with (first
        | (go_at_call 99; refine KP.out.mono ?_; rintro e w1 ⟨⟨v, b, rfl, hb1, l, ho, hl1, hl2, hl3⟩, h2⟩; rw [HBB.out] at hb1; subst hb1; obtain ⟨a1, c1, rfl⟩ := own_slQ ho; have HL1 := Lib.hid hl1; have HI := Lib.hid hl2; have HL3 := Lib.hid (p := l.length ≤ 16777216) (Nat.le_trans hl3 (by rw [WL.out]; exact hn)); have RL := Lib.hid (HL.out.later h2); have BK := Lib.hid (HB.out.belw h2); have F1 := Lib.hid (FrR.below (rb := rb) h2); have O1 := Lib.hid (p := OwZs w1 (rb + 1) (.slice a1 l.length c1) l) (own_monoQ ho (show rb + 1 ≤ w.heap.size from HL.out.sz)); have c5 := BK.out.cell 5; simp only [rdA, List.getElem?_toArray, List.getElem?_cons_zero, List.getElem?_cons_succ] at c5; have f5 := BK.out.frozen 5; have BK2 := Lib.hid (BK.out.set 5 (.slice a1 l.length c1) (by simp [rdA])); have RL2 := Lib.hid (RL.out.setB BK.out 5 (.slice a1 l.length c1)); have F2 := Lib.hid (F1.out.trans (rd_gr BK.out 5 (.slice a1 l.length c1))); have S2 := Lib.hid (p := OwZs (w1.setCell ⟨rb, 5, none⟩ (.slice a1 l.length c1)) (rb + 1) (.slice a1 l.length c1) l) (own_setQ O1.out (by omega)); clear ho h2 hl1 hl2 hl3)
        | (go_at_call 100; refine (FZ.out _ _ _ _ HL3.out (own_nr S2.out (Nat.le_trans HL3.out (by omega)) (fun s q => inR_i64Q (HI.out s q)))).mono ?_; rintro e w3 ⟨mb, rfl, hm3, h3⟩; have BK3 := Lib.hid (BK2.out.belw h3); have RL3 := Lib.hid (RL2.out.later h3); have F3 := Lib.hid (F2.out.trans (FrR.below h3)); have S3 := Lib.hid (own_belQ S2.out h3); have M3 := Lib.hid (p := MpqZ w3 (.map (some mb)) (plcW l)) (.inr ⟨mb, rfl, by obtain ⟨y1, y2, y3, y4, _⟩ := hm3; exact ⟨y1, y2, y3, y4, Nat.zero_le _⟩⟩); have c13 := BK3.out.cell 13; have f13 := BK3.out.frozen 13; simp only [rdA, List.getElem?_toArray, List.set_toArray, List.getElem?_cons_zero, List.getElem?_cons_succ, List.set_cons_zero, List.set_cons_succ] at c13; clear hm3 h3))
      go_ret
      refine ⟨by first | (show Ending.returned (Value.bool (decide (0 < n))) = Ending.returned (Value.bool (!EE && true)); rw [NZ.out, Bool.and_true]) | (show Ending.returned (Value.bool false) = Ending.returned (Value.bool (!EE && false)); rw [Bool.and_false]), ⟨F3.out.trans (rd_gr BK3.out 13 _), (BK3.out.set 13 _ (by simp [rdA])).cell 1⟩, fun q hq => ?_⟩
      obtain ⟨l', h1, rfl⟩ := HQ.out q hq
      obtain rfl := HL1.out l' h1
      have RL4 := (RL3.out.setB BK3.out 13 (.map (some mb))).more (Nat.le_succ m)
      have S4 := own_setQ (j := 13) (u := .map (some mb)) S3.out (Nat.lt_succ_self rb)
      have M4 := (rd_gr BK3.out 13 (.map (some mb))).mpqZ M3.out
      exact ⟨vn, vu, .slice a1 l.length c1, vd, fn, fu, .map (some mb), D, BK3.out.set 13 _ (by simp [rdA]), ⟨RL4.on, RL4.ou, S4, RL4.od, RL4.oc, RL4.ap, RL4.mn, RL4.mu, M4, RL4.days, RL4.dl, RL4.cl, RL4.sz, RL4.an, RL4.au, RL4.nu⟩⟩
end Go.Proofs.YtccjeipkljdhdaaGreatDoor

namespace Go.Proofs.YtccjeipkljdhdaaGreatDoor
open Go.RowKit
set_option linter.unusedVariables false
set_option linter.unusedSimpArgs false

theorem infoIq : (Tryz.prog.info? 42).map (fun i => (i.zero, i.size, i.bytes)) = some (some (.agg #[.int .i64 0, .int .i64 0, .int .i64 0]), 3, 24) := by kernel_rfl
/-- An instruction is appended, where the order is drawn. -/
theorem step_inA {ops : Array Oper} {o : Oper} {a : Act} {K : Act → World → Prop} {Q : Exit → Act → World → Prop} {E : Prop} (w : World) (hgd : o.guard = none) (s x : Operand)
    (ho : o.op = .call { callee := .builtin .append, args := #[s, x], argTypes := #[37, 37] }) (B : Nat) (v : Value) (l : List In) (f : In) (hs : a.eval s = v)
    (hown : w.ownsRow B 42 3 v l.length (icsP l)) (hx : a.eval x = .slice (some ⟨w.heap.size, 0, none⟩) 1 1) (hl : l.length ≤ 1000000000) (hb : B ≤ w.heap.size)
    (h : ∀ g cap w', w'.ownsRow B 42 3 (.slice (some ⟨g, 0, none⟩) (l.length + 1) cap) (l.length + 1) (icsP l ++ icell f) → (w.alloc (.cells #[.int .i64 f.o, .int .i64 f.a, .int .i64 f.b] 42)).grownBy w' v.ownBlock → (v.ownBlock = some g ∨ g = (w.alloc (.cells #[.int .i64 f.o, .int .i64 f.a, .int .i64 f.b] 42)).heap.size) → K (a.put o.dst (.slice (some ⟨g, 0, none⟩) (l.length + 1) cap)) w') :
    if Region.wanted o (yielded ops a.tmps) = true then Oper.wp Tryz.prog o a (w.alloc (.cells #[.int .i64 f.o, .int .i64 f.a, .int .i64 f.b] 42)) K Q else E := by
  obtain ⟨i0, hi, hz0, hz1, hz2⟩ := info_parts infoIq
  refine step_append_lies _ hgd s x 37 ho B 42 i0 (.agg #[.int .i64 0, .int .i64 0, .int .i64 0]) 3 24 Tryz.underlying37 hi hz0 hz1 hz2 rfl (by decide) v _ _ hs (World.ownsRow.alloc hown _) ⟨w.heap.size, 0, none⟩ 1 1 (icell f) hx rfl ?_ ?_ (by omega) (by unfold maxLen; omega) (by omega) (by simp; omega) _ rfl (fun g cap w' h1 h2 h3 _ => h g cap w' h1 h2 h3)
  · intro j u hj
    match j, hj with
    | 0, hj => simp [icell] at hj; subst hj; simp [Addr.add]
    | 1, hj => simp [icell] at hj; subst hj; simp [Addr.add]
    | 2, hj => simp [icell] at hj; subst hj; simp [Addr.add]
  · intro u hu
    simp [icell] at hu
    rcases hu with rfl | rfl | rfl <;> rfl
theorem RsL.codeC {rb : Nat} {W W1 : World} {p : Ap} {vn vu vp fn fu fp : Value} {D0 : List Sg} {s : Sg} {m g cap : Nat} {av : Option Nat} (h : RsL rb W p vn vu vp (.slice (some ⟨g, 0, none⟩) (D0.length + 1) cap) fn fu fp (D0 ++ [s]) m av) (gr : W.grownBy W1 s.cv.ownBlock) :
    W1.cell? ⟨g, D0.length * 2 + 1, none⟩ = some s.cv ∧ W1.frozen? ⟨g, D0.length * 2 + 1, none⟩ = false ∧ some rb ≠ s.cv.ownBlock := by
  have el : (D0 ++ [s]).length = D0.length + 1 := by simp
  have od := h.od
  rw [el] at od
  have os := h.oc D0.length (by omega)
  rw [show (D0 ++ [s]).getD D0.length default = s by simp [List.getD]] at os
  have od1 := row_farP od gr (fun k z e e2 => by
    rcases own_apQ od os (by decide) with t | t
    · cases t
    · rintro rfl; exact t (e2.trans e.symm))
  refine ⟨?_, od1.frozenAt _, fun e => by have := (os.lt rb e.symm).1; omega⟩
  have e := flat_at Sg.cs 2 (fun _ => rfl) (D0 ++ [s]) D0.length (by omega) 1 (by omega)
  have := od1.cells (g := g) rfl _ _ e
  rw [Go.Addr.add_lit, Nat.zero_add] at this
  rw [this]
  simp [List.getD, Sg.cs, Sg.cv]
/-- An instruction's line. -/
def apIns (p : Ap) (w : ByteArray) (ws : List ByteArray) : Option Ap := if p.days = [] then none else (insW p w ws).map fun i => { p with days := addI p.days i }
set_option maxRecDepth 100000 in
set_option maxHeartbeats 4000000 in
theorem takeInstr_any {w : World} {rb cnt next m : Nat} {av : Option Nat} {rest : ByteArray} {p : Ap} {x : Addr} {n c : Nat} {w0 : ByteArray} {ws : List ByteArray} (h : RsP rb w rest cnt next p m av) (hs : SR w (some x) n c (w0 :: ws)) (hz : ∀ s ∈ w0 :: ws, s.size ≤ 16777216) (hR : Rws w) (hM : Mds w) (ht : Pows w) (hE : Ev w) (hm : m ≤ 16777216) :
    Calls Tryz.prog 68 #[.pointer (some ⟨rb, 0, none⟩), .slice (some x) n c] w fun e w' => TkQ rb rest cnt next (m + 1) av (apIns p w0 ws) w e w' := by
  obtain ⟨vn, vu, vp, vd, fn, fu, fp, D, hb, hl⟩ := h
  obtain ⟨c0, c1, c2, c3, c4, c5, c6, c7, c8, c9, c10, c11, c12, c13⟩ := rd_cells hb
  have KI := Lib.hid (instrOf_any rb n c x w0 ws p fn fu fp w hs hz hR hM ht hE c11 c12 c13 hl.mn hl.mu hl.mp hb.lt)
  clear c0 c1 c2 c3 c4 c5 c6 c7 c8 c9 c11 c12 c13 hs hz hR hM ht hE
  have HB := Lib.hid hb
  clear hb
  rcases List.eq_nil_or_concat D with rfl | ⟨D0, s, rfl⟩
  · have e0 : apIns p w0 ws = none := by
      unfold apIns
      rw [if_pos (by rw [← hl.days]; rfl)]
    rw [e0]
    obtain ⟨a, c', rfl⟩ := own_slQ hl.od
    simp only [List.length_nil] at c10
    clear hl e0 KI
    go_enter Tryz.func68, Tryz.ntmps68
    go_wp2
    go_ret
    exact ⟨rfl, ⟨FrR.refl _ _, HB.out.cell 1⟩, fun q hq => by cases hq⟩
  · rw [List.concat_eq_append] at hl
    have el : (D0 ++ [s]).length = D0.length + 1 := by simp
    have od := hl.od
    rw [el] at od
    obtain ⟨g, cap, rfl⟩ := own_formQ od (by omega)
    have ce : w.cell? ⟨g, D0.length * 2 + 1, none⟩ = some s.cv := by
      have e := flat_at Sg.cs 2 (fun _ => rfl) (D0 ++ [s]) D0.length (by omega) 1 (by omega)
      have := od.cells (g := g) rfl _ _ e
      rw [Go.Addr.add_lit, Nat.zero_add] at this
      rw [this]
      simp [List.getD, Sg.cs, Sg.cv]
    have gl : g < w.heap.size := (od.lt g rfl).2
    have gn : g ≠ rb := by have := (od.lt g rfl).1; omega
    have CE := Lib.hid (fun W (b : Below w.heap.size w W) => (b.cell (p := ⟨g, D0.length * 2 + 1, none⟩) gl).trans ce)
    have dl := hl.dl
    have DL := Lib.hid hl.dl
    have cl := hl.cl D0.length (by omega)
    rw [show (D0 ++ [s]).getD D0.length default = s by simp [List.getD]] at cl
    have os := hl.oc D0.length (by omega)
    rw [show (D0 ++ [s]).getD D0.length default = s by simp [List.getD]] at os
    have OS := Lib.hid (fun W (b : Below w.heap.size w W) => own_belQ os b)
    have HL := Lib.hid hl
    have C10 := Lib.hid (fun W (b : Below w.heap.size w W) => (b.cell (p := ⟨rb, 10, none⟩) HB.out.lt).trans c10)
    have SZ := Lib.hid hl.sz
    have d0 : D0.length ≤ 16777216 := by omega
    have days : p.days ≠ [] := by rw [← hl.days]; simp
    have e0 : apIns p w0 ws = (insW p w0 ws).map fun i => { p with days := addI p.days i } := by unfold apIns; rw [if_neg days]
    have e1 : (apIns p w0 ws).isSome = (insW p w0 ws).isSome := by rw [e0]; simp
    unfold TkQ
    rw [e1]
    have HQ := Lib.hid (p := ∀ q, apIns p w0 ws = some q → ∃ i, insW p w0 ws = some i ∧ q = { p with days := addI p.days i }) (fun q e => by
      rw [e0] at e
      obtain ⟨i, h1, h2⟩ := Option.map_eq_some_iff.1 e
      exact ⟨i, h1, h2.symm⟩)
    obtain ⟨O, hO⟩ : ∃ O, insW p w0 ws = O := ⟨_, rfl⟩
    rw [hO] at KI HQ ⊢
    clear hl od ce days e0 e1 hO dl el os
    cases O with
    | none =>
      go_enter Tryz.func68, Tryz.ntmps68
      go_wp2_with (go_at_call 95; refine KI.out.mono ?_; rintro e w1 ⟨⟨i, rfl, hi⟩, h2⟩; have B1 := Lib.hid h2; clear hi h2)
      go_ret
      exact ⟨rfl, ⟨FrR.below (B1.out.trans ((allocBP w1 _).mono B1.out.size)), (HB.out.belw (B1.out.trans ((allocBP w1 _).mono B1.out.size))).cell 1⟩, fun q hq => by obtain ⟨i, e, _⟩ := HQ.out q hq; cases e⟩
    | some j =>
      go_enter Tryz.func68, Tryz.ntmps68
      go_wp2_with (go_at_call 95; refine KI.out.mono ?_; rintro e w1 ⟨⟨i, rfl, hi⟩, h2⟩; obtain rfl := hi j rfl; have B1 := Lib.hid h2; have BX := Lib.hid (h2.trans ((allocBP w1 (.cells #[.int .i64 i.o, .int .i64 i.a, .int .i64 i.b] 42)).mono h2.size)); have c10' := C10.out _ BX.out; clear hi h2)
      have NW := Lib.hid (box3 (Below.refl _ (w1.alloc (.cells #[.int .i64 i.o, .int .i64 i.a, .int .i64 i.b] 42))))
      have NZ := Lib.hid (p := w1.heap.size < (w1.alloc (.cells #[.int .i64 i.o, .int .i64 i.a, .int .i64 i.b] 42)).heap.size) (by simp)
      obtain ⟨wS, hwS⟩ : ∃ y, w1.alloc (.cells #[.int .i64 i.o, .int .i64 i.a, .int .i64 i.b] 42) = y := ⟨_, rfl⟩
      rw [hwS] at BX NW c10' NZ
      rw [hwS]
      clear hwS
      obtain ⟨y0, y1, y2, _, _, _⟩ := NW.out
      have ce := CE.out _ BX.out
      have ce2 := CE.out _ (BX.out.trans ((allocBP wS (.cells #[.int .i64 i.o, .int .i64 i.a, .int .i64 i.b] 42)).mono BX.out.size))
      unfold Sg.cv at ce ce2
      have D9 := Lib.hid (p := Below wS.heap.size wS wS.drew) (Below.refl _ wS).drew
      have BD := Lib.hid (BX.out.trans (D9.out.mono BX.out.size))
      have BA := Lib.hid (BD.out.trans ((allocBP wS.drew (.cells #[.int .i64 i.o, .int .i64 i.a, .int .i64 i.b] 42)).mono BD.out.size))
      have OW := Lib.hid (OS.out _ BD.out)
      have RS2 := Lib.hid (HL.out.later BA.out)
      have cl2 : s.code.length ≤ 1000000000 := by omega
      go_region_law (refine step_inA wS.drew rfl _ _ rfl (rb + 1) s.cv s.code i rfl OW.out rfl cl2 (Nat.le_trans SZ.out BD.out.size) ?_; intro g5 cap5 w5 h1 h2 h3; have O5 := Lib.hid h1; have G5 := Lib.hid h2; have L5 := Lib.hid h3; have CC := Lib.hid (RS2.out.codeC h2); have k1 := CC.out.1; have k2 := CC.out.2.1; clear h1 h2 h3)
      all_goals
        go_wp2
        go_ret
        obtain ⟨RL, FR⟩ := (RS2.out.more (Nat.le_succ m)).code i G5.out O5.out L5.out (Nat.succ_le_succ cl)
        have bk := ((HB.out.belw BA.out).grown G5.out CC.out.2.2).other g (D0.length * 2 + 1) (.slice (some ⟨g5, 0, none⟩) (s.code.length + 1) cap5) gn
        refine ⟨rfl, ⟨(FrR.below BA.out).trans FR, bk.cell 1⟩, fun q hq => ?_⟩
        obtain ⟨i', e, rfl⟩ := HQ.out q hq
        injection e with e
        subst e
        exact ⟨vn, vu, vp, _, fn, fu, fp, _, bk, RL⟩
end Go.Proofs.YtccjeipkljdhdaaGreatDoor
