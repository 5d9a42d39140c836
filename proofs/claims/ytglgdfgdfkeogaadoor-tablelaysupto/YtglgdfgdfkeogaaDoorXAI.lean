import Derived.Test.YtglgdfgdfkeogaaDoorXAE
import Derived.Test.YtglgdfgdfkeogaaDoorXAF
import Derived.Test.YtglgdfgdfkeogaaDoorXAG
import Derived.Test.YtglgdfgdfkeogaaDoorXAH
import Derived.Test.YtglgdfgdfkeogaaDoorXAD
namespace Go.Proofs.YtglgdfgdfkeogaaDoor
open Go.RowKit
set_option linter.unusedVariables false
set_option linter.unusedSimpArgs false

end Go.Proofs.YtglgdfgdfkeogaaDoor

namespace Go.Proofs.YtglgdfgdfkeogaaDoor
open Go.RowKit
set_option linter.unusedVariables false
set_option linter.unusedSimpArgs false

/-- A table as it lies in memory, and what it says. -/
structure TbIs (w : World) (t : Tb) (ss : List ByteArray) (rs : List (List Cl)) : Prop where
  nl : NL w t.an t.ln t.ss
  nn : t.an = none → t.ln = 0 ∧ t.cn = 0
  rl : RL w t.ar t.lr t.rs
  rn : t.ar = none → t.lr = 0 ∧ t.cr = 0
  ns : t.ss = ss
  rs : t.rs.map (·.cs) = rs
theorem TbIs.later {w w' : World} {t : Tb} {ss : List ByteArray} {rs : List (List Cl)} (h : TbIs w t ss rs) (b : Below w.heap.size w w') : TbIs w' t ss rs := ⟨h.nl.later b, h.nn, h.rl.later b, h.rn, h.ns, h.rs⟩
theorem tbIs_of {w : World} {t : Tb} (h : TbOk w t) : TbIs w t t.ss (t.rs.map (·.cs)) := ⟨h.nl, h.nn, h.rl, h.rn, rfl, rfl⟩
theorem PsT.is {B : Nat} {w : World} {t : Tb} {R : PR} (h : PsT B w t R) : TbIs w t R.ns R.rs := ⟨h.ok.nl, h.ok.nn, h.ok.rl, h.ok.rn, h.ns, h.rs⟩
theorem no_hd {w : World} {B : Nat} {a b : Option Addr} {n m c : Nat} {ss : List ByteArray} (h : NO w B a (.slice b m c) n ss) : b = none → m = 0 ∧ c = 0 := by
  rcases h with ⟨_, h, h0⟩ | ⟨g, c', h1, h2, h3, _⟩
  · injection h with e1 e2 e3
    subst e1 e2 e3
    exact fun _ => ⟨rfl, rfl⟩
  · injection h1 with e1 e2 e3
    subst e1 e2 e3
    exact fun e => (by cases e)
theorem ro_hd {w : World} {B : Nat} {v : Value} {n : Nat} {rs : List Rw} (h : RO w B v n rs) : ∃ b m c, v = .slice b m c ∧ (b = none → m = 0 ∧ c = 0) := by
  rcases h with ⟨rfl, h0⟩ | ⟨g, c', qs, rfl, h2, h3, h4⟩
  · exact ⟨none, 0, 0, rfl, fun _ => ⟨rfl, rfl⟩⟩
  · exact ⟨some ⟨g, 0, none⟩, n, c', rfl, fun e => (by cases e)⟩
theorem ownT_any (t : Tb) (ss : List ByteArray) (rs : List (List Cl)) (w : World) (h : TbIs w t ss rs) (hb : Bh w) :
    Calls Tryd.prog 9 #[t.val] w fun e w' => ∃ u : Tb, e = .returned u.val ∧ TbIs w' u ss rs ∧ Below w.heap.size w w' := by
  refine (own_any t.an t.ar t.ln t.cn t.lr t.cr t.ss t.rs w h.nl h.rl h.nn h.rn hb).mono ?_
  rintro e w' ⟨b, m, c, v2, rfl, N, R, B⟩
  obtain ⟨b2, m2, c2, rfl, r1⟩ := ro_hd R
  have n1 := no_hd N
  obtain ⟨rfl, N2⟩ := N.nl h.nl.1 h.nl.2.1 h.nl.2.2.1
  obtain ⟨rfl, qs, R2, R3⟩ := ro_rl R (fun r hr => ⟨(h.rl.2.2.1 r hr).1.2.2.1, by rw [(h.rl.2.2.1 r hr).1.1]; exact (h.rl.2.2.1 r hr).1.2.1⟩) h.rl.1 h.rl.2.1
  exact ⟨⟨b, t.ln, c, t.ss, b2, t.lr, c2, qs⟩, rfl, ⟨N2, n1, R2, r1, h.ns, R3.trans h.rs⟩, B⟩
theorem tb_lens {w : World} {t : Tb} {ss : List ByteArray} {rs : List (List Cl)} (h : TbIs w t ss rs) : t.ln = ss.length ∧ t.lr = rs.length := by
  have a := h.nl.1
  have b := h.rl.1
  rw [h.ns] at a
  have c := congrArg List.length h.rs
  rw [List.length_map] at c
  exact ⟨a.symm, by omega⟩
set_option maxHeartbeats 1000000 in
theorem sameT_any (t u : Tb) (ss : List ByteArray) (rs : List (List Cl)) (w : World) (h : TbIs w t ss rs) (k : TbIs w u ss rs) :
    Calls Tryd.prog 19 #[t.val, u.val] w fun e w' => e = .returned (.bool true) ∧ Below w.heap.size w w' := by
  obtain ⟨a1, a2⟩ := tb_lens h
  obtain ⟨b1, b2⟩ := tb_lens k
  obtain ⟨an, ln, cn, tss, ar, lr, cr, trs⟩ := t
  obtain ⟨bn, mn, dn, uss, br, mr, dr, urs⟩ := u
  obtain ⟨h1, _, h1r, _, h2, h3⟩ := h
  obtain ⟨k1, _, k1r, _, k2, k3⟩ := k
  simp only at a1 a2 b1 b2 h2 h3 k2 k3
  subst h2
  have e1 : uss = tss := k2
  subst e1
  have e2 : mn = ln := by omega
  have e3 : mr = lr := by omega
  subst e2 e3
  have B2 : Below w.heap.size w ((w.alloc (.cells #[.slice an mn cn, .slice ar mr cr] 25)).alloc (.cells #[.slice bn mn dn, .slice br mr dr] 25)) := ((Below.refl _ w).alloc (Nat.le_refl _) _).alloc (by simp) _
  have KN := Lib.hid (p := ∀ W, Below w.heap.size w W → Calls Tryd.prog 44 #[.slice an mn cn, .slice bn mn dn] W fun e w' => e = .returned (.bool true) ∧ ∃ q, w' = W.drewN q) (fun W b => sameNames_any an bn mn cn dn uss W (h1.later b) (k1.later b))
  have KR := Lib.hid (p := ∀ W, Below w.heap.size w W → Calls Tryd.prog 18 #[.slice ar mr cr, .slice br mr dr] W fun e w' => e = .returned (.bool true) ∧ ∃ q, w' = W.drewN q) (fun W b => sameRows_any ar br mr cr dr trs urs W (h1r.later b) (k1r.later b) (h3.trans k3.symm))
  have BB := Lib.hid B2
  have c0 : ∀ q, (((w.alloc (.cells #[.slice an mn cn, .slice ar mr cr] 25)).alloc (.cells #[.slice bn mn dn, .slice br mr dr] 25)).drewN q).cell? ⟨w.heap.size, 1, none⟩ = some (.slice ar mr cr) := fun q => by
    show ((w.alloc (.cells #[.slice an mn cn, .slice ar mr cr] 25)).alloc (.cells #[.slice bn mn dn, .slice br mr dr] 25)).cell? ⟨w.heap.size, 1, none⟩ = _
    go_simp
  have c1 : ∀ q, (((w.alloc (.cells #[.slice an mn cn, .slice ar mr cr] 25)).alloc (.cells #[.slice bn mn dn, .slice br mr dr] 25)).drewN q).cell? ⟨w.heap.size + 1, 1, none⟩ = some (.slice br mr dr) := fun q => by
    show ((w.alloc (.cells #[.slice an mn cn, .slice ar mr cr] 25)).alloc (.cells #[.slice bn mn dn, .slice br mr dr] 25)).cell? ⟨w.heap.size + 1, 1, none⟩ = _
    go_simp
  clear h1 h1r h3 k1 k1r k3 k2 B2 a1 a2 b1 b2
  show Calls Tryd.prog 19 #[.agg #[.slice an mn cn, .slice ar mr cr], .agg #[.slice bn mn dn, .slice br mr dr]] w _
  go_enter Tryd.func19, Tryd.ntmps19
  go_wp2_with (first
    | (go_at_call 44; refine (KN.out _ BB.out).mono ?_; rintro e w1 ⟨rfl, q, rfl⟩)
    | (go_at_call 18; refine (KR.out _ (belowT_drewN BB.out _)).mono ?_; rintro e w1 ⟨rfl, q2, rfl⟩))
  go_ret
  exact ⟨rfl, belowT_drewN BB.out _⟩

/-- What is valid is a table that can be read back. -/
theorem dup_nodup {ss : List ByteArray} (h : dupB ss = false) : ss.Nodup := by
  rw [List.nodup_iff_pairwise_ne, List.pairwise_iff_getElem]
  intro i j hi hj hij e
  have q : colF ss (ss.getD j default) 0 = (j : Int) := by
    refine Classical.byContradiction fun k => ?_
    rw [dup_yes hj k] at h
    cases h
  have c := colF_col ss (ss.getD j default)
  rw [q] at c
  rcases c with ⟨c1, _⟩ | ⟨k, c1, c2, c3, c4⟩
  · omega
  · have : k = j := by omega
    subst this
    refine c4 i hij ?_
    simp [List.getD, hi, hj, e]
theorem gd_valid {ss : List ByteArray} {rs : List (List Cl)} (h : validE ss rs = 0) (hw : ∀ r ∈ rs, ∀ c ∈ r, (Lit.int .i64 c.v).wf = true) : Gd ss rs := by
  obtain ⟨h1, h2, h3, h4⟩ := valid_out h
  unfold validE at h
  split at h
  · omega
  · split at h
    · omega
    · split at h
      · omega
      · rename_i k1 k2 k3
        split at h
        · omega
        · rename_i k4
          simp only [Bool.or_eq_true, Bool.not_eq_true', not_or, Bool.not_eq_false, Bool.not_eq_true] at k3
          refine ⟨h1, fun n hn => List.all_eq_true.1 k3.1 n hn, dup_nodup k3.2, h4, fun r hr c hc => ⟨?_, hw r hr c hc⟩, h2⟩
          cases q : stB c with
          | false => rfl
          | true => exact absurd (List.any_eq_true.2 ⟨r, hr, List.any_eq_true.2 ⟨c, hc, q⟩⟩) k4
theorem valid_gd {ss : List ByteArray} {rs : List (List Cl)} (g : Gd ss rs) : validE ss rs = 0 := by
  refine val0 g.rw (by have := g.n64; have := g.r4; omega) ?_ (fun r hr => ?_)
  · have a : ss.all nameB = true := List.all_eq_true.2 g.nm
    have b : dupB ss = false := by
      refine dup_no (fun k hk => ?_)
      have c := colF_col ss (ss.getD k default)
      rcases c with ⟨_, c⟩ | ⟨i, c1, c2, c3, c4⟩
      · exact absurd rfl (c k hk)
      · rw [c1]
        have hik : i ≤ k := by
          refine Nat.le_of_not_lt fun q => c4 k q rfl
        rcases Nat.lt_or_ge i k with q | q
        · have nd := g.nd
          rw [List.nodup_iff_pairwise_ne, List.pairwise_iff_getElem] at nd
          refine absurd ?_ (nd i k c2 hk q)
          simp [List.getD, c2, hk] at c3
          exact c3
        · have : i = k := by omega
          rw [this]
    rw [a, b]; rfl
  · rw [List.any_eq_false]
    intro c hc
    rw [(g.st r hr c hc).1]
    simp
end Go.Proofs.YtglgdfgdfkeogaaDoor

namespace Go.Proofs.YtglgdfgdfkeogaaDoor
open Go.RowKit
set_option linter.unusedVariables false
set_option linter.unusedSimpArgs false

theorem colF_mem {ss : List ByteArray} {t : ByteArray} : 0 ≤ colF ss t 0 ↔ t ∈ ss := by
  rcases colF_col ss t with ⟨h, k⟩ | ⟨i, h, h1, h2, _⟩
  · rw [h]
    refine ⟨fun e => by omega, fun e => ?_⟩
    obtain ⟨i, hi, e⟩ := List.getElem_of_mem e
    exact absurd (by simp [List.getD, hi, e]) (k i hi)
  · rw [h]
    refine ⟨fun _ => ?_, fun _ => by omega⟩
    rw [← h2, show ss.getD i default = ss[i] by simp [List.getD, h1]]
    exact List.getElem_mem h1
theorem colF_app_old {ss q : List ByteArray} {t : ByteArray} (h : 0 ≤ colF ss t 0) : colF (ss ++ q) t 0 = colF ss t 0 := by
  refine Col.only (colF_col _ _) ?_
  rcases colF_col ss t with ⟨e, _⟩ | ⟨i, e, h1, h2, h3⟩
  · omega
  · rw [e]
    refine .inr ⟨i, rfl, by simp; omega, ?_, fun j hj => ?_⟩
    · rw [← h2]; simp only [List.getD]; rw [List.getElem?_append_left h1]
    · have := h3 j hj
      simp only [List.getD] at this ⊢
      rwa [List.getElem?_append_left (by omega)]
theorem colF_app_at {A C : List ByteArray} {t : ByteArray} (h : t ∉ A) : colF (A ++ t :: C) t 0 = (A.length : Int) := by
  refine Col.only (colF_col _ _) (.inr ⟨A.length, rfl, by simp, by simp [List.getD], fun j hj e => h ?_⟩)
  simp only [List.getD] at e
  rw [List.getElem?_append_left hj, List.getElem?_eq_getElem hj] at e
  rw [← e]
  exact List.getElem_mem hj
/-- The names of an overlay. -/
def ovN (ss tt : List ByteArray) : List ByteArray := ss ++ tt.filter fun t => decide (colF ss t 0 < 0)
/-- The column of the upper table's name. -/
def ovC (ss tt : List ByteArray) (i : Nat) : Int := colF (ovN ss tt) (tt.getD i default) 0
theorem ovC_old {ss tt : List ByteArray} {i : Nat} (h : 0 ≤ colF ss (tt.getD i default) 0) : ovC ss tt i = colF ss (tt.getD i default) 0 := colF_app_old h
theorem take_split {tt : List ByteArray} {i : Nat} (hi : i < tt.length) : tt = tt.take i ++ tt.getD i default :: tt.drop (i + 1) := by
  rw [show tt.getD i default = tt[i] by simp [List.getD, hi], List.getElem_cons_drop, List.take_append_drop]
theorem ovN_new {ss tt : List ByteArray} {i : Nat} (hi : i < tt.length) (h : colF ss (tt.getD i default) 0 < 0) : ovN ss (tt.take (i + 1)) = ovN ss (tt.take i) ++ [tt.getD i default] := by
  unfold ovN
  have e : tt.take (i + 1) = tt.take i ++ [tt.getD i default] := by
    rw [List.take_add_one, List.getElem?_eq_getElem hi]; simp [List.getD, hi]
  rw [e, List.filter_append, List.append_assoc, List.filter_cons_of_pos (by simpa using h), List.filter_nil]
theorem ovN_old {ss tt : List ByteArray} {i : Nat} (hi : i < tt.length) (h : ¬ colF ss (tt.getD i default) 0 < 0) : ovN ss (tt.take (i + 1)) = ovN ss (tt.take i) := by
  unfold ovN
  have e : tt.take (i + 1) = tt.take i ++ [tt.getD i default] := by
    rw [List.take_add_one, List.getElem?_eq_getElem hi]; simp [List.getD, hi]
  rw [e, List.filter_append, List.filter_cons_of_neg (by simpa using h), List.filter_nil, List.append_nil]
theorem ovC_new {ss tt : List ByteArray} {i : Nat} (nd : tt.Nodup) (hi : i < tt.length) (h : colF ss (tt.getD i default) 0 < 0) : ovC ss tt i = ((ovN ss (tt.take i)).length : Int) := by
  unfold ovC
  obtain ⟨t, ht⟩ : ∃ t, tt.getD i default = t := ⟨_, rfl⟩
  have sp := take_split hi
  rw [ht] at sp h ⊢
  have n1 : t ∉ tt.take i := by
    rw [sp] at nd
    have := (List.nodup_append.1 nd).2.2
    exact fun q => this t q t (List.mem_cons_self ..) rfl
  have e : ovN ss tt = ovN ss (tt.take i) ++ t :: (tt.drop (i + 1)).filter fun t => decide (colF ss t 0 < 0) := by
    unfold ovN
    conv => lhs; rw [sp]
    rw [List.filter_append, List.filter_cons_of_pos (by simpa using h), List.append_assoc]
  rw [e, colF_app_at]
  unfold ovN
  intro q
  rcases List.mem_append.1 q with q | q
  · have := colF_mem.2 q; omega
  · exact n1 (List.mem_filter.1 q).1
theorem ovN_mem {ss tt : List ByteArray} {t : ByteArray} : t ∈ ovN ss tt ↔ t ∈ ss ∨ t ∈ tt := by
  unfold ovN
  rw [List.mem_append, List.mem_filter]
  refine ⟨fun h => h.imp id (·.1), fun h => ?_⟩
  by_cases q : t ∈ ss
  · exact .inl q
  · refine .inr ⟨h.resolve_left q, ?_⟩
    have : ¬ 0 ≤ colF ss t 0 := fun e => q (colF_mem.1 e)
    simp; omega
theorem colF_lt {ss : List ByteArray} {t : ByteArray} (h : t ∈ ss) : ∃ c : Nat, colF ss t 0 = (c : Int) ∧ c < ss.length ∧ ss.getD c default = t := by
  rcases colF_col ss t with ⟨e, _⟩ | ⟨i, e, h1, h2, _⟩
  · have := colF_mem.2 h; omega
  · exact ⟨i, e, h1, h2⟩
theorem getD_mem {ss : List ByteArray} {i : Nat} (h : i < ss.length) : ss.getD i default ∈ ss := by
  rw [show ss.getD i default = ss[i] by simp [List.getD, h]]; exact List.getElem_mem h
theorem ovC_lt (ss : List ByteArray) {tt : List ByteArray} {i : Nat} (h : i < tt.length) : ∃ c : Nat, ovC ss tt i = (c : Int) ∧ c < (ovN ss tt).length := by
  obtain ⟨c, h1, h2, _⟩ := colF_lt (ovN_mem.2 (.inr (getD_mem h)) : tt.getD i default ∈ ovN ss tt)
  exact ⟨c, h1, h2⟩
theorem ovC_inj {ss tt : List ByteArray} (nd : tt.Nodup) {i j : Nat} (hi : i < tt.length) (hj : j < tt.length) (h : ovC ss tt i = ovC ss tt j) : i = j := by
  obtain ⟨c, h1, h2, h3⟩ := colF_lt (ovN_mem.2 (.inr (getD_mem hi)) : tt.getD i default ∈ ovN ss tt)
  obtain ⟨d, k1, k2, k3⟩ := colF_lt (ovN_mem.2 (.inr (getD_mem hj)) : tt.getD j default ∈ ovN ss tt)
  unfold ovC at h
  have e : c = d := by omega
  subst e
  rw [h3] at k3
  simp only [List.getD, List.getElem?_eq_getElem hi, List.getElem?_eq_getElem hj, Option.getD_some] at k3
  rw [List.nodup_iff_pairwise_ne, List.pairwise_iff_getElem] at nd
  rcases Nat.lt_trichotomy i j with q | q | q
  · exact absurd k3 (nd i j hi hj q)
  · exact q
  · exact absurd k3.symm (nd j i hj hi q)
theorem ovN_nodup {ss tt : List ByteArray} (h : ss.Nodup) (k : tt.Nodup) : (ovN ss tt).Nodup := by
  unfold ovN
  refine List.nodup_append.2 ⟨h, k.sublist List.filter_sublist, fun a ha b hb e => ?_⟩
  subst e
  have := (List.mem_filter.1 hb).2
  have := colF_mem.2 ha
  simp at *; omega
theorem ovN_len (ss tt : List ByteArray) : (ovN ss tt).length ≤ ss.length + tt.length := by
  unfold ovN; rw [List.length_append]; have := List.length_filter_le (fun t => decide (colF ss t 0 < 0)) tt; omega
theorem ovN_lenT (ss tt : List ByteArray) (i : Nat) : (ovN ss (tt.take i)).length ≤ (ovN ss tt).length := by
  unfold ovN
  rw [List.length_append, List.length_append]
  have : ((tt.take i).filter fun t => decide (colF ss t 0 < 0)).Sublist (tt.filter fun t => decide (colF ss t 0 < 0)) := (List.take_sublist i tt).filter _
  have := this.length_le
  omega

/-- Cells laid over a row, as far as they go. -/
def ovLay (f : Nat → Nat) (b R : List Cl) : Nat → List Cl
  | 0 => R
  | k + 1 => if (b.getD k default).h then (ovLay f b R k).set (f k) (b.getD k default) else ovLay f b R k
theorem ovLay_len (f : Nat → Nat) (b R : List Cl) : ∀ k, (ovLay f b R k).length = R.length
  | 0 => rfl
  | k + 1 => by
    unfold ovLay
    split
    · rw [List.length_set]; exact ovLay_len f b R k
    · exact ovLay_len f b R k
theorem ovLay_no (f : Nat → Nat) (b R : List Cl) (c : Nat) : ∀ k, (∀ i, i < k → f i = c → (b.getD i default).h = false) → (ovLay f b R k).getD c default = R.getD c default
  | 0, _ => rfl
  | k + 1, h => by
    have ih := ovLay_no f b R c k (fun i hi => h i (by omega))
    unfold ovLay
    split
    · rename_i q
      rw [← ih]
      have : ¬ f k = c := fun e => by rw [h k (by omega) e] at q; cases q
      simp only [List.getD]
      rw [List.getElem?_set_ne this]
    · exact ih
theorem ovLay_yes (f : Nat → Nat) (b R : List Cl) (c i : Nat) : ∀ k, i < k → f i = c → (b.getD i default).h = true → (∀ j, j < k → f j = c → j = i) → c < R.length → (ovLay f b R k).getD c default = b.getD i default
  | 0, h, _, _, _, _ => by omega
  | k + 1, h, hf, hh, hu, hc => by
    unfold ovLay
    by_cases e : i = k
    · subst e
      rw [if_pos hh, hf]
      simp only [List.getD]
      rw [List.getElem?_set_self (by rw [ovLay_len]; exact hc)]
      rfl
    · have ih := ovLay_yes f b R c i k (by omega) hf hh (fun j hj => hu j (by omega)) hc
      split
      · rw [← ih]
        have : ¬ f k = c := fun q => e (hu k (by omega) q).symm
        simp only [List.getD]
        rw [List.getElem?_set_ne this]
      · exact ih
theorem ovLay_mem (f : Nat → Nat) (b R : List Cl) (c : Cl) : ∀ k, k ≤ b.length → c ∈ ovLay f b R k → c ∈ R ∨ c ∈ b
  | 0, _, h => .inl h
  | k + 1, hk, h => by
    unfold ovLay at h
    split at h
    · rcases List.mem_or_eq_of_mem_set h with h | h
      · exact ovLay_mem f b R c k (by omega) h
      · refine .inr ?_
        rw [h, show b.getD k default = b[k] by simp [List.getD, show k < b.length by omega]]
        exact List.getElem_mem _
    · exact ovLay_mem f b R c k (by omega) h
/-- A row made as wide as that. -/
def widR (r : List Cl) (N : Nat) : List Cl := r.take N ++ List.replicate (N - r.length) zCl
theorem widR_len {r : List Cl} {N : Nat} : (widR r N).length = N := by
  unfold widR; rw [List.length_append, List.length_take, List.length_replicate]; omega
theorem widR_at {r : List Cl} {N : Nat} (h : r.length ≤ N) (c : Nat) : (widR r N).getD c default = r.getD c default := by
  unfold widR
  rw [List.take_of_length_le h]
  simp only [List.getD]
  by_cases q : c < r.length
  · rw [List.getElem?_append_left q]
  · rw [List.getElem?_append_right (by omega), List.getElem?_replicate, List.getElem?_eq_none (by omega : r.length ≤ c)]
    split <;> rfl
def ovF (ss tt : List ByteArray) (i : Nat) : Nat := (ovC ss tt i).toNat
def ovRow (ss tt : List ByteArray) (ra rb : List Cl) : List Cl := ovLay (ovF ss tt) rb (widR ra (ovN ss tt).length) rb.length
/-- The rows of an overlay. -/
def ovR (ss : List ByteArray) (ra : List (List Cl)) (tt : List ByteArray) (rb : List (List Cl)) : List (List Cl) :=
  (List.range (max ra.length rb.length)).map fun d => ovRow ss tt (ra.getD d []) (rb.getD d [])
theorem row_at {rs : List (List Cl)} {d : Nat} (h : rs.length ≤ d) : rs.getD d [] = [] := by
  simp only [List.getD]; rw [List.getElem?_eq_none h]; rfl
theorem row_len {ss : List ByteArray} {rs : List (List Cl)} (g : Gd ss rs) (d : Nat) : (rs.getD d []).length ≤ ss.length ∧ (d < rs.length → (rs.getD d []).length = ss.length) := by
  by_cases h : d < rs.length
  · have := g.rw _ (show rs.getD d [] ∈ rs by rw [show rs.getD d [] = rs[d] by simp [List.getD, h]]; exact List.getElem_mem h)
    exact ⟨by omega, fun _ => this⟩
  · rw [row_at (by omega)]; exact ⟨by simp, fun q => absurd q h⟩
theorem atD_nil (r : List Cl) (c : Nat) (h : r.length ≤ c) : r.getD c default = default := by
  simp only [List.getD]; rw [List.getElem?_eq_none h]; rfl
/-- What is said of a name on a day in an overlay. -/
theorem ov_raw {ss tt : List ByteArray} {ra rb : List (List Cl)} (g : Gd ss ra) (k : Gd tt rb) (n : ByteArray) (d : Nat) :
    rawT (ovN ss tt) (ovR ss ra tt rb) n d = if (rawT tt rb n d).h then rawT tt rb n d else rawT ss ra n d := by
  by_cases hd : d < max ra.length rb.length
  · have e : (ovR ss ra tt rb).getD d [] = ovRow ss tt (ra.getD d []) (rb.getD d []) := by unfold ovR; simp [List.getD, hd]
    unfold rawT
    rw [e]
    by_cases hn : n ∈ ovN ss tt
    · obtain ⟨c, c1, c2, c3⟩ := colF_lt hn
      rw [if_neg (show ¬ colF (ovN ss tt) n 0 < 0 by omega), c1, Int.toNat_natCast]
      have low : (ra.getD d []).getD c default = if colF ss n 0 < 0 then default else (ra.getD d []).getD (colF ss n 0).toNat default := by
        by_cases q : colF ss n 0 < 0
        · rw [if_pos q]
          refine atD_nil _ _ (Nat.le_trans (row_len g d).1 ?_)
          refine Nat.le_of_not_lt fun z => ?_
          have : n ∈ ss := by
            rw [← c3, show (ovN ss tt).getD c default = ss.getD c default by unfold ovN; simp only [List.getD]; rw [List.getElem?_append_left z]]
            exact getD_mem z
          have := colF_mem.2 this
          omega
        · rw [if_neg q]
          have : colF (ovN ss tt) n 0 = colF ss n 0 := colF_app_old (by omega)
          rw [← this, c1, Int.toNat_natCast]
      have wid : (ra.getD d []).length ≤ (ovN ss tt).length := Nat.le_trans (row_len g d).1 (by unfold ovN; simp)
      rw [← low, ← widR_at wid c]
      by_cases hq : n ∈ tt
      · obtain ⟨i, i1, i2, i3⟩ := colF_lt hq
        rw [if_neg (show ¬ colF tt n 0 < 0 by omega), i1, Int.toNat_natCast]
        have fi : ovF ss tt i = c := by unfold ovF ovC; rw [i3, c1, Int.toNat_natCast]
        cases hh : ((rb.getD d []).getD i default).h with
        | true =>
          rw [if_pos rfl]
          refine ovLay_yes _ _ _ _ _ _ ?_ fi hh (fun j hj fj => ?_) (by rw [widR_len]; exact c2)
          · refine Nat.lt_of_not_le fun z => ?_
            rw [atD_nil _ _ z] at hh
            cases hh
          · have hj' : j < tt.length := Nat.lt_of_lt_of_le hj (row_len k d).1
            refine ovC_inj (ss := ss) k.nd hj' i2 ?_
            obtain ⟨x, x1, _⟩ := ovC_lt ss hj'
            obtain ⟨y, y1, _⟩ := ovC_lt ss i2
            unfold ovF at fi fj
            rw [x1, Int.toNat_natCast] at fj
            rw [y1, Int.toNat_natCast] at fi
            rw [x1, y1, fi, fj]
        | false =>
          rw [if_neg (by simp)]
          refine ovLay_no _ _ _ _ _ (fun j hj fj => ?_)
          have hj' : j < tt.length := Nat.lt_of_lt_of_le hj (row_len k d).1
          have : j = i := by
            refine ovC_inj (ss := ss) k.nd hj' i2 ?_
            obtain ⟨x, x1, _⟩ := ovC_lt ss hj'
            obtain ⟨y, y1, _⟩ := ovC_lt ss i2
            unfold ovF at fi fj
            rw [x1, Int.toNat_natCast] at fj
            rw [y1, Int.toNat_natCast] at fi
            rw [x1, y1, fi, fj]
          rw [this]; exact hh
      · have q : colF tt n 0 < 0 := by
          have : ¬ 0 ≤ colF tt n 0 := fun z => hq (colF_mem.1 z)
          omega
        rw [if_pos q, def_h, if_neg (by simp)]
        refine ovLay_no _ _ _ _ _ (fun j hj fj => ?_)
        exfalso
        have hj' : j < tt.length := Nat.lt_of_lt_of_le hj (row_len k d).1
        obtain ⟨x, x1, x2, x3⟩ := colF_lt (ovN_mem.2 (.inr (getD_mem hj')) : tt.getD j default ∈ ovN ss tt)
        unfold ovF ovC at fj
        rw [x1, Int.toNat_natCast] at fj
        subst fj
        rw [c3] at x3
        exact hq (x3 ▸ getD_mem hj')
    · have no : ∀ l : List ByteArray, n ∉ l → colF l n 0 < 0 := fun l h => by
        have : ¬ 0 ≤ colF l n 0 := fun z => h (colF_mem.1 z)
        omega
      rw [if_pos (no _ hn), if_pos (no tt fun z => hn (ovN_mem.2 (.inr z))), if_pos (no ss fun z => hn (ovN_mem.2 (.inl z))), def_h]
      rfl
  · have e : (ovR ss ra tt rb).getD d [] = [] := row_at (by unfold ovR; simp; omega)
    have e1 := row_at (rs := ra) (d := d) (by omega)
    have e2 := row_at (rs := rb) (d := d) (by omega)
    have z : ∀ (c : Nat), ([] : List Cl).getD c default = default := fun c => rfl
    unfold rawT
    rw [e, e1, e2]
    simp only [z, ite_self, def_h]
theorem ov_gd {ss tt : List ByteArray} {ra rb : List (List Cl)} (g : Gd ss ra) (k : Gd tt rb) (hn : (ovN ss tt).length ≤ 64) : Gd (ovN ss tt) (ovR ss ra tt rb) := by
  refine ⟨hn, fun n h => (ovN_mem.1 h).elim (g.nm n) (k.nm n), ovN_nodup g.nd k.nd, fun r hr => ?_, fun r hr c hc => ?_, ?_⟩
  · obtain ⟨d, _, rfl⟩ := List.mem_map.1 hr
    unfold ovRow; rw [ovLay_len, widR_len]
  · obtain ⟨d, hd, rfl⟩ := List.mem_map.1 hr
    have mm : ∀ (rs : List (List Cl)) (d : Nat) (c : Cl), c ∈ rs.getD d [] → rs.getD d [] ∈ rs := fun rs d c hc => by
      by_cases h : d < rs.length
      · rw [show rs.getD d [] = rs[d] by simp [List.getD, h]]; exact List.getElem_mem h
      · rw [row_at (by omega)] at hc; cases hc
    rcases ovLay_mem _ _ _ c _ (Nat.le_refl _) hc with q | q
    · unfold widR at q
      rcases List.mem_append.1 q with q | q
      · have q := List.mem_of_mem_take q
        exact g.st _ (mm ra d c q) c q
      · rw [(List.mem_replicate.1 q).2]
        exact ⟨rfl, by decide⟩
    · exact k.st _ (mm rb d c q) c q
  · unfold ovR
    have := g.r4
    have := k.r4
    simp; omega
theorem cut_raw (ss : List ByteArray) (rs : List (List Cl)) (n : ByteArray) (d k : Nat) : rawT ss (rs.take k) n d = if d < k then rawT ss rs n d else default := by
  unfold rawT
  by_cases h : d < k
  · rw [if_pos h]
    have : (rs.take k).getD d [] = rs.getD d [] := by simp only [List.getD, List.getElem?_take]; rw [if_pos h]
    rw [this]
  · rw [if_neg h, row_at (by simp; omega)]
    split <;> rfl
theorem raw_far {ss : List ByteArray} {rs : List (List Cl)} {n : ByteArray} {d : Nat} (h : rs.length ≤ d) : rawT ss rs n d = default := by
  unfold rawT
  rw [row_at h]
  split <;> rfl
end Go.Proofs.YtglgdfgdfkeogaaDoor

namespace Go.Proofs.YtglgdfgdfkeogaaDoor
open Go.RowKit
set_option linter.unusedVariables false
set_option linter.unusedSimpArgs false

def als (w : World) (l : List Obj) : World := l.foldl World.alloc w
theorem als_heap : ∀ (l : List Obj) (w : World), (als w l).heap = w.heap ++ l.toArray
  | [], w => by simp [als]
  | o :: l, w => by
    show (als (w.alloc o) l).heap = _
    rw [als_heap l (w.alloc o)]
    show w.heap.push o ++ l.toArray = _
    apply Array.ext'
    simp
theorem als_blk (w : World) (l : List Obj) (k : Nat) : (als w l).heap[w.heap.size + k]? = l[k]? := by
  rw [als_heap, Array.getElem?_append_right (by omega)]
  simp
end Go.Proofs.YtglgdfgdfkeogaaDoor

namespace Go.Proofs.YtglgdfgdfkeogaaDoor
open Go.RowKit
set_option linter.unusedVariables false
set_option linter.unusedSimpArgs false

theorem validI_any (t : Tb) (ss : List ByteArray) (rs : List (List Cl)) (w : World) (h : TbIs w t ss rs) :
    Calls Tryd.prog 37 #[t.val] w fun e w' => e = .returned (.int .i64 (validE ss rs)) ∧ Below w.heap.size w w' := by
  have := validT_any t.an t.ar t.ln t.cn t.lr t.cr t.ss t.rs w h.nl h.rl
  rw [h.ns, h.rs] at this
  exact this
end Go.Proofs.YtglgdfgdfkeogaaDoor

namespace Go.Proofs.YtglgdfgdfkeogaaDoor
open Go.RowKit
set_option linter.unusedVariables false
set_option linter.unusedSimpArgs false

/-- A list of m rows, the first ones made. -/
structure MkR (W : World) (B rb m : Nat) (qs : List Rw) : Prop where
  hb : W.heap[rb]? = some (.cells (qs.map qv ++ List.replicate (m - qs.length) (Value.slice none 0 0)).toArray 49)
  le : qs.length ≤ m
  ok : ∀ q ∈ qs, qOk W B q
  bl : B ≤ rb
  nd : qs.Pairwise fun p q => p.a ≠ q.a
theorem MkR.below {W W' : World} {B rb m : Nat} {qs : List Rw} (h : MkR W B rb m qs) (b : Below W.heap.size W W') : MkR W' B rb m qs :=
  ⟨(b.block rb (blk_lt h.hb)).trans h.hb, h.le, fun q hq => (h.ok q hq).stay (fun z cs hz => b.block z (blk_lt hz)), h.bl, h.nd⟩
theorem MkR.cell {W : World} {B rb m : Nat} {qs : List Rw} (h : MkR W B rb m qs) (k : Nat) (hk : qs.length = k) (hm : k < m) : W.cell? ⟨rb, k, none⟩ = some (.slice none 0 0) ∧ W.frozen? ⟨rb, k, none⟩ = false := by
  refine ⟨?_, Joins.unfrozen_of_block h.hb _⟩
  rw [Joins.cell_of_block h.hb]
  subst hk
  rw [List.getElem?_toArray, List.getElem?_append_right (by simp), List.length_map, Nat.sub_self, List.getElem?_replicate, if_pos (by omega)]
theorem MkR.push {W V : World} {B rb m k z n : Nat} {qs : List Rw} {r : List Cl} (h : MkR W B rb m qs) (hk : qs.length = k) (hm : k < m) (b : Below W.heap.size W V) (hz : V.heap[z]? = some (.cells (clv r).toArray 53)) (hB : B ≤ z) (hn : r.length = n) (hf : W.heap.size ≤ z) :
    MkR (V.setCell ⟨rb, k, none⟩ (.slice (some ⟨z, 0, none⟩) n n)) B rb m (qs ++ [⟨some ⟨z, 0, none⟩, n, n, r⟩]) := by
  have h2 := h.below b
  have e := Joins.block_setCell (i := k) h2.hb (.slice (some ⟨z, 0, none⟩) n n)
  have st : ∀ (y : Nat) (cs : Array Value), V.heap[y]? = some (.cells cs 53) → (V.setCell ⟨rb, k, none⟩ (.slice (some ⟨z, 0, none⟩) n n)).heap[y]? = V.heap[y]? := fun y cs hy => (grT_set V rb k _).block y (blk_lt hy) (by have := blk_ty hy h2.hb (by decide); simpa using this)
  refine ⟨e.trans ?_, by simp; omega, fun q hq => ?_, h.bl, nd_snoc h.ok h.nd rfl hf⟩
  · congr 2
    rw [List.setIfInBounds_toArray]
    refine congrArg List.toArray ?_
    subst hk
    rw [List.set_append_right _ _ (by simp), List.length_map, Nat.sub_self, List.map_append]
    rw [show m - qs.length = (m - (qs ++ [(⟨some ⟨z, 0, none⟩, n, n, r⟩ : Rw)]).length) + 1 by simp; omega, List.replicate_succ]
    simp [qv]
  · rcases List.mem_append.1 hq with hq | hq
    · exact (h2.ok q hq).stay st
    · rw [List.mem_singleton.1 hq]
      exact qOk.stay (W := V) ⟨z, rfl, hB, hn.symm, hn.symm, hz⟩ st
theorem MkR.own {W : World} {B rb m : Nat} {qs : List Rw} (h : MkR W B rb m qs) (hm : qs.length = m) (h2 : m ≤ maxLen) : RwO W B (.slice (some ⟨rb, 0, none⟩) m m) qs := by
  have hb := h.hb
  rw [hm, Nat.sub_self, List.replicate_zero, List.append_nil] at hb
  refine ⟨⟨by simp, .inr ⟨rb, m, _, by rw [hm], h.bl, hb, by omega, h2, by simp [hm], by simp; rw [List.take_of_length_le (by simp [hm])]⟩⟩, h.ok, h.nd⟩
theorem make_rowsN (n : Nat) (hn : n ≤ 5864062014640) (W : World) : (Instr.makeSlice 23 (.int .i64 (n : Int)) (.int .i64 (n : Int))).run Tryd.prog W = .ok (.slice (some ⟨W.heap.size, 0, none⟩) n n) (W.alloc (.cells (List.replicate n (.slice none 0 0)).toArray 49)) := by
  obtain ⟨i0, hi, hz0, hz1, hz2⟩ := info_parts infoR
  have := run_make (P := Tryd.prog) W 23 49 i0 _ Tryd.underlying23 hi hz0 .i64 .i64 n n (by omega) (by omega) (by rw [hz2]; omega) (by omega)
  rw [hz1] at this
  have e : madeCells (Value.slice none 0 0).cells (n * 1) = (List.replicate n (.slice none 0 0)).toArray := by
    rw [Nat.mul_one]
    apply Array.ext
    · simp [madeCells]
    · intro i h1 h2
      simp [madeCells, Value.cells, Nat.mod_one]
  simp only [Int.toNat_natCast] at this
  rw [e] at this
  exact this
theorem mkR_new (w : World) (B m : Nat) (hB : B ≤ w.heap.size) : MkR (w.alloc (.cells (List.replicate m (.slice none 0 0)).toArray 49)) B w.heap.size m [] :=
  ⟨by rw [World.alloc_heap_new]; simp, Nat.zero_le _, (fun q h => by cases h), hB, List.Pairwise.nil⟩
/-- slices.Clone of names. -/
theorem cloneN_any (a : Option Addr) (n c : Nat) (ss : List ByteArray) (w : World) (h : NL w a n ss) (hn : a = none → n = 0 ∧ c = 0) :
    Calls Tryd.prog 39 #[.slice a n c] w fun e w' => ∃ b m d, e = .returned (.slice b m d) ∧ w'.ownsRow w.heap.size 9 1 (.slice b m d) n (ss.map Value.string) ∧ Below w.heap.size w w' := by
  obtain ⟨h1, h2, h3, h4⟩ := h
  cases a with
  | none =>
    obtain ⟨rfl, rfl⟩ := hn rfl
    have : ss = [] := List.length_eq_zero_iff.1 h1
    subst this
    refine (Tryd.slices_Clone_string_nil 0 0 w).mono ?_
    rintro e w' ⟨rfl, rfl⟩
    exact ⟨none, 0, 0, rfl, World.ownsRow_nil _ _ _ _, Below.refl _ _⟩
  | some x =>
    rcases h4 with h4 | ⟨b, o, hb, _, hc⟩
    · subst h4
      have : ss = [] := List.length_eq_zero_iff.1 h1
      subst this
      refine (Tryd.slices_Clone_string_zero x c w).mono ?_
      rintro e w' ⟨v, rfl, o, _, b⟩
      obtain ⟨a2, c2, rfl⟩ := rowL_form o
      exact ⟨a2, _, c2, rfl, o, b⟩
    · injection hb with hb
      subst hb
      refine (Tryd.slices_Clone_string b o n c ss w (by omega) (by omega) (fun j hj => by
        rw [hc j (by omega)]
        simp only [List.getD]
        rw [List.getElem?_eq_getElem hj]
        rfl)).mono ?_
      rintro e w' ⟨v, rfl, o, _, b⟩
      rw [List.take_of_length_le (by omega)] at o
      obtain ⟨a2, c2, rfl⟩ := rowL_form o
      exact ⟨a2, _, c2, rfl, o, b⟩
end Go.Proofs.YtglgdfgdfkeogaaDoor

namespace Go.Proofs.YtglgdfgdfkeogaaDoor
open Go.RowKit
set_option linter.unusedVariables false
set_option linter.unusedSimpArgs false

/-- What Cut answers. -/
def cutE (ss : List ByteArray) (rs : List (List Cl)) (k : Int) : Int := if k < 0 then 1 else validE ss rs
/-- A table that was handed out, and what it says; nothing, if there is an error. -/
def TabE (ss : List ByteArray) (rs : List (List Cl)) (E : Int) (w : World) (e : Ending) (w' : World) : Prop :=
  ∃ u : Tb, e = .returned (.tuple #[u.val, .int .i64 E]) ∧ TbIs w' u (if E = 0 then ss else []) (if E = 0 then rs else []) ∧ Below w.heap.size w w'
theorem tabE_nil {ss : List ByteArray} {rs : List (List Cl)} {E : Int} {w w' : World} (h : ¬ E = 0) (b : Below w.heap.size w w') : TabE ss rs E w (.returned (.tuple #[.agg #[.slice none 0 0, .slice none 0 0], .int .i64 E])) w' := by
  refine ⟨nilT, rfl, ?_, b⟩
  rw [if_neg h, if_neg h]
  exact (psT_nil 0 w' 0 0).is
/-- The same, with its memory. -/
def TabP (ss : List ByteArray) (rs : List (List Cl)) (E : Int) (w : World) (e : Ending) (w' : World) : Prop :=
  ∃ u : Tb, e = .returned (.tuple #[u.val, .int .i64 E]) ∧ ((E = 0 → PsT w.heap.size w' u ⟨0, 0, ss, rs⟩) ∧ (E ≠ 0 → u = nilT)) ∧ Below w.heap.size w w'
theorem tabP_nil {ss : List ByteArray} {rs : List (List Cl)} {E : Int} {w w' : World} (h : ¬ E = 0) (b : Below w.heap.size w w') : TabP ss rs E w (.returned (.tuple #[.agg #[.slice none 0 0, .slice none 0 0], .int .i64 E])) w' :=
  ⟨nilT, rfl, ⟨fun z => absurd z h, fun _ => rfl⟩, b⟩
theorem tabP_E {ss : List ByteArray} {rs : List (List Cl)} {E : Int} {w w' : World} {e : Ending} (h : TabP ss rs E w e w') : TabE ss rs E w e w' := by
  obtain ⟨u, rfl, ⟨h1, h2⟩, b⟩ := h
  by_cases z : E = 0
  · refine ⟨u, rfl, ?_, b⟩
    rw [if_pos z, if_pos z]
    exact (h1 z).is
  · rw [h2 z]
    exact tabE_nil z b
theorem two_boxes (w : World) (u v x y : Value) (t : TypeId) : Below w.heap.size w ((w.alloc (.cells #[u, v] t)).alloc (.cells #[x, y] t)) := ((Below.refl _ w).alloc (Nat.le_refl _) _).alloc (by simp) _
theorem two_cells {w W : World} {u v x y : Value} {t : TypeId} (b : Below ((w.alloc (.cells #[u, v] t)).alloc (.cells #[x, y] t)).heap.size ((w.alloc (.cells #[u, v] t)).alloc (.cells #[x, y] t)) W) :
    W.heap[w.heap.size]? = some (.cells #[u, v] t) ∧ W.heap[w.heap.size + 1]? = some (.cells #[x, y] t) := by
  refine ⟨(b.block _ (by simp; omega)).trans ((Below.heap_alloc _ _ _ (by simp)).trans (World.alloc_heap_new w _)), (b.block _ (by simp)).trans ?_⟩
  have := World.alloc_heap_new (w.alloc (.cells #[u, v] t)) (.cells #[x, y] t)
  rwa [World.size_alloc] at this
theorem below_eq {B : Nat} {a U V : World} (h : Below B a U) (h1 : V.os = U.os) (h2 : V.tape = U.tape) (h3 : V.output = U.output) (h4 : V.heap = U.heap) : Below B a V :=
  ⟨h1.trans h.os, h2.trans h.tape, h3.trans h.output, by rw [h4]; exact h.size, fun k hk => by rw [h4]; exact h.block k hk⟩
set_option maxRecDepth 100000 in
set_option maxHeartbeats 8000000 in
theorem cutP_any (t : Tb) (ss : List ByteArray) (rs : List (List Cl)) (k : Int) (w : World) (h : TbIs w t ss rs) (hk : k ≤ 9223372036854775807) :
    Calls Tryd.prog 15 #[t.val, .int .i64 k] w fun e w' => TabP ss (rs.take k.toNat) (cutE ss rs k) w e w' := by
  obtain ⟨E, hE⟩ : ∃ E, cutE ss rs k = E := ⟨_, rfl⟩
  rw [hE]
  have KV := Lib.hid (fun (W : World) (b : Below w.heap.size w W) => validI_any t ss rs W (h.later b))
  have hlr := (tb_lens h).2
  have hln := (tb_lens h).1
  obtain ⟨an, ln, cn, tss, ar, lr, cr, trs⟩ := t
  have B0 := Lib.hid (two_boxes w (.slice an ln cn) (.slice ar lr cr) (.slice none 0 0) (.slice none 0 0) 25)
  have CE := Lib.hid (fun W (b : Below ((w.alloc (.cells #[.slice an ln cn, .slice ar lr cr] 25)).alloc (.cells #[.slice none 0 0, .slice none 0 0] 25)).heap.size ((w.alloc (.cells #[.slice an ln cn, .slice ar lr cr] 25)).alloc (.cells #[.slice none 0 0, .slice none 0 0] 25)) W) => two_cells b)
  have D0 := Lib.hid (Below.refl ((w.alloc (.cells #[.slice an ln cn, .slice ar lr cr] 25)).alloc (.cells #[.slice none 0 0, .slice none 0 0] 25)).heap.size ((w.alloc (.cells #[.slice an ln cn, .slice ar lr cr] 25)).alloc (.cells #[.slice none 0 0, .slice none 0 0] 25)))
  show Calls Tryd.prog 15 #[.agg #[.slice an ln cn, .slice ar lr cr], .int .i64 k] w _
  by_cases h0 : k < 0
  · have e0 : E = 1 := by rw [← hE]; unfold cutE; rw [if_pos h0]
    subst e0
    have Q := Lib.hid (p := ∀ w', Below w.heap.size w w' → TabP ss (rs.take k.toNat) 1 w (.returned (.tuple #[.agg #[.slice none 0 0, .slice none 0 0], .int .i64 1])) w') (fun w' b => tabP_nil (by omega) b)
    obtain ⟨_, b1⟩ := CE.out _ D0.out
    obtain ⟨r0, r1, _, _⟩ := box_all2 b1
    clear h hE hlr hln b1
    go_enter Tryd.func15, Tryd.ntmps15
    go_wp2
    refine bodyPost_ret (v := .tuple #[.agg #[.slice none 0 0, .slice none 0 0], .int .i64 1]) (by simp [results, Tryd.results15, go_sem, r0, r1]) rfl ?_
    exact Q.out _ B0.out
  · have e0 : E = validE ss rs := by rw [← hE]; unfold cutE; rw [if_neg h0]
    by_cases hv : validE ss rs = 0
    · obtain ⟨v1, v2, v3, v4⟩ := valid_out hv
      rw [hv] at KV e0
      subst e0
      have HH := Lib.hid h
      obtain ⟨m, hm⟩ : ∃ m : Nat, min k (lr : Int) = (m : Int) := ⟨(min k (lr : Int)).toNat, by omega⟩
      have ml : m ≤ lr := by omega
      have hm4 : m ≤ 4096 := by simp only at hlr; omega
      have HT := Lib.hid (p := rs.take k.toNat = rs.take m) (by
        simp only at hlr
        rcases Int.le_total k (lr : Int) with z | z
        · rw [show k.toNat = m by omega]
        · rw [List.take_of_length_le (by omega), List.take_of_length_le (by omega)])
      have hmk := make_rowsN m (by omega)
      have GET := Lib.hid (p := ∀ d, d < lr → trs.getD d default ∈ trs ∧ (trs.getD d default).cs = rs.getD d [] ∧ (trs.getD d default).n = ln) (fun d hd => by
        have hd' : d < trs.length := by rw [h.rl.1]; exact hd
        have em : trs.getD d default = trs[d] := by simp [List.getD, hd']
        have e2 : (trs.getD d default).cs = rs.getD d [] := by
          rw [em, ← h.rs]
          simp [List.getD, hd']
        have mem : trs.getD d default ∈ trs := by rw [em]; exact List.getElem_mem hd'
        refine ⟨mem, e2, ?_⟩
        rw [← (h.rl.2.2.1 _ mem).1.1, e2, v4 _ (by
          have hd2 : d < rs.length := by simp only at hlr; omega
          rw [show rs.getD d [] = rs[d] by simp [List.getD, hd2]]
          exact List.getElem_mem hd2)]
        simp only at hln
        omega)
      have KN := Lib.hid (fun (W : World) (b : Below w.heap.size w W) => cloneN_any an ln cn tss W (h.nl.later b) h.nn)
      have RLN := Lib.hid (p := rs.length = lr ∧ ln = ss.length ∧ tss = ss) ⟨hlr.symm, hln, h.ns⟩
      have GDH := Lib.hid (gd_valid hv (fun r hr c hc => by
        rw [← h.rs] at hr
        obtain ⟨q, hq, rfl⟩ := List.mem_map.1 hr
        exact (h.rl.2.2.1 q hq).1.2.2.1 c hc))
      clear h hE hlr hln v1 v2 v3 v4 hv
      obtain ⟨b0, b1⟩ := CE.out _ D0.out
      obtain ⟨c0, c1, _, _⟩ := box_all2 b0
      clear b0 b1
      go_enter Tryd.func15, Tryd.ntmps15
      go_wp2_with (go_at_call 37; refine (KV.out _ B0.out).mono ?_; rintro e w2 ⟨rfl, hB⟩; have D2 := Lib.hid hB; have E2 := Lib.hid (B0.out.trans (hB.mono B0.out.size)); obtain ⟨b0, b1⟩ := CE.out _ hB; obtain ⟨y0, y1, _, _⟩ := box_all2 b0; clear hB b0 b1)
      have S2 := Lib.hid (p := w.heap.size ≤ w2.heap.size) E2.out.size
      obtain ⟨rb, hrb⟩ : ∃ rb, w2.heap.size = rb := ⟨_, rfl⟩
      have HRB := Lib.hid hrb
      have M0 := Lib.hid (mkR_new w2 w.heap.size m E2.out.size)
      have A0 := Lib.hid (p := Below ((w.alloc (.cells #[.slice an ln cn, .slice ar lr cr] 25)).alloc (.cells #[.slice none 0 0, .slice none 0 0] 25)).heap.size ((w.alloc (.cells #[.slice an ln cn, .slice ar lr cr] 25)).alloc (.cells #[.slice none 0 0, .slice none 0 0] 25)) (w2.alloc (.cells (List.replicate m (.slice none 0 0)).toArray 49))) (D2.out.alloc D2.out.size _)
      have RBW := Lib.hid (p := ((w.alloc (.cells #[.slice an ln cn, .slice ar lr cr] 25)).alloc (.cells #[.slice none 0 0, .slice none 0 0] 25)).heap.size ≤ rb) (by rw [← hrb]; exact D2.out.size)
      rw [hrb] at M0
      rw [hrb]
      clear hrb y0 y1 c0 c1
      go_loopw [26] (fun t ws => ∃ (d : Nat) (qs : List Rw), d ≤ m ∧ t = .int .i64 (d : Int) ∧ RowKit.Hid (qs.length = d) ∧ RowKit.Hid (qs.map (·.cs) = rs.take d) ∧ MkR ws w.heap.size rb m qs ∧ Below ((w.alloc (.cells #[.slice an ln cn, .slice ar lr cr] 25)).alloc (.cells #[.slice none 0 0, .slice none 0 0] 25)).heap.size ((w.alloc (.cells #[.slice an ln cn, .slice ar lr cr] 25)).alloc (.cells #[.slice none 0 0, .slice none 0 0] 25)) ws) (fun t _ => m - (intOf t).toNat)
      case atStart => exact ⟨0, [], Nat.zero_le _, rfl, rfl, by show _ = _; simp, M0.out, A0.out⟩
      case round =>
        rename World => ws
        obtain ⟨d, qs, hd, rfl, hql, hqm, hM, hA⟩ := hrel
        have MM := Lib.hid hM
        have AA := Lib.hid hA
        have QL := Lib.hid hql.out
        have QM := Lib.hid hqm.out
        have ES := Lib.hid (B0.out.trans (hA.mono B0.out.size))
        obtain ⟨b0, b1⟩ := CE.out _ hA
        obtain ⟨c0, c1, _, _⟩ := box_all2 b0
        by_cases hlt : d < m
        · obtain ⟨mem, g1, g2⟩ := GET.out d (by omega)
          obtain ⟨x, o, rfl, hx, hcs⟩ : ∃ x o, ar = some ⟨x, o, none⟩ ∧ x < w.heap.size ∧ ∀ i, i < lr → w.cell? ⟨x, o + i, none⟩ = some (.slice (trs.getD i default).a (trs.getD i default).n (trs.getD i default).cap) := by
            rcases HH.out.rl.2.2.2 with z | z
            · simp only at z; omega
            · exact z
          have kc : (d : Int) < (m : Int) := by omega
          have l64 : ln ≤ 64 := by have := GDH.out.n64; have := RLN.out; omega
          have kl : (d : Int) < (lr : Int) := by omega
          have cr0 := (ES.out.cell (p := ⟨x, o + d, none⟩) hx).trans (hcs d (by omega))
          have RX := Lib.hid ((HH.out.rl.2.2.1 _ mem).1)
          have kw : IntKind.i64.wrap ((d : Int) + 1) = (d : Int) + 1 := by simp [IntKind.wrap, IntKind.bits, IntKind.signed]; omega
          have NXT := Lib.hid (p := ∀ a : Option Addr, (qs ++ [(⟨a, ln, ln, (trs.getD d default).cs.take ln ++ List.replicate (ln - (trs.getD d default).n) zCl⟩ : Rw)]).map (·.cs) = rs.take (d + 1)) (fun a => by
            have hd2 : d < rs.length := by have := RLN.out.1; omega
            rw [List.map_append, QM.out, List.take_add_one, List.getElem?_eq_getElem hd2]
            refine congrArg (rs.take d ++ ·) ?_
            have e1 : (trs.getD d default).cs.length = ln := by rw [RX.out.1]; exact g2
            simp only [List.map_cons, List.map_nil, Option.toList_some]
            rw [List.take_of_length_le (by omega), g2, Nat.sub_self, List.replicate_zero, List.append_nil, g1]
            simp [List.getD, hd2])
          have LNX := Lib.hid (p := ((trs.getD d default).cs.take ln ++ List.replicate (ln - (trs.getD d default).n) zCl).length = ln) (by
            have e1 : (trs.getD d default).cs.length = ln := by rw [RX.out.1]; exact g2
            rw [List.length_append, List.length_take, List.length_replicate, e1, g2]
            omega)
          clear hcs hM hA hql hqm b0 b1
          generalize trs.getD d default = r at *
          obtain ⟨ra, rn, rcap, rcs⟩ := r
          have g3 : ln = rn := g2.symm
          subst g3
          clear g1 g2 mem
          simp only at cr0 RX NXT LNX
          have NR := Lib.hid (newRow_any ra ln ln rcap rcs ws.drew (RX.out.later (ES.out.mono (Nat.le_refl _) |>.drew)) (by omega))
          obtain ⟨ZR, hZR⟩ : ∃ ZR, (clv (rcs.take ln ++ List.replicate (ln - ln) zCl)).toArray = ZR := ⟨_, rfl⟩
          rw [hZR] at NR
          have V1 := Lib.hid (p := Below ws.heap.size ws (ws.drew.alloc (.cells ZR 53))) (((Below.refl _ ws).drew).alloc (Nat.le_refl _) _)
          have P1 := Lib.hid (MM.out.push (z := ws.heap.size) (r := rcs.take ln ++ List.replicate (ln - ln) zCl) QL.out hlt V1.out (by rw [hZR]; exact World.alloc_heap_new ws.drew _) ES.out.size LNX.out (Nat.le_refl _))
          obtain ⟨k0, k1⟩ := (MM.out.below V1.out).cell d QL.out hlt
          have k0' : (ws.alloc (.cells ZR 53)).cell? ⟨rb, d, none⟩ = some (.slice none 0 0) := k0
          have k1' : (ws.alloc (.cells ZR 53)).frozen? ⟨rb, d, none⟩ = false := k1
          have A1 := Lib.hid (p := Below ((w.alloc (.cells #[.slice an ln cn, .slice (some ⟨x, o, none⟩) lr cr] 25)).alloc (.cells #[.slice none 0 0, .slice none 0 0] 25)).heap.size ((w.alloc (.cells #[.slice an ln cn, .slice (some ⟨x, o, none⟩) lr cr] 25)).alloc (.cells #[.slice none 0 0, .slice none 0 0] 25)) (ws.drew.alloc (.cells ZR 53))) (AA.out.trans (V1.out.mono AA.out.size))
          clear hZR k0 k1
          have SA := Lib.hid (p := (ws.drew.alloc (.cells ZR 53)).cell? ⟨w.heap.size, 0, none⟩ = some (.slice an ln cn) ∧ (ws.drew.alloc (.cells ZR 53)).cell? ⟨w.heap.size, 1, none⟩ = some (.slice (some ⟨x, o, none⟩) lr cr) ∧ (ws.drew.alloc (.cells ZR 53)).cell? ⟨x, o + d, none⟩ = some (.slice ra ln rcap)) ⟨(box_all2 (CE.out _ A1.out).1).1, (box_all2 (CE.out _ A1.out).1).2.1, (V1.out.cell (p := ⟨x, o + d, none⟩) (Nat.lt_of_lt_of_le hx ES.out.size)).trans cr0⟩
          have A2 := Lib.hid (A1.out.setCell (p := ⟨rb, d, none⟩) RBW.out (.slice (some ⟨ws.heap.size, 0, none⟩) ln ln))
          have SB := Lib.hid (p := ∀ W : World, W.heap = ((ws.drew.alloc (.cells ZR 53)).setCell ⟨rb, d, none⟩ (.slice (some ⟨ws.heap.size, 0, none⟩) ln ln)).heap → W.cell? ⟨w.heap.size, 0, none⟩ = some (.slice an ln cn) ∧ W.cell? ⟨w.heap.size, 1, none⟩ = some (.slice (some ⟨x, o, none⟩) lr cr) ∧ W.cell? ⟨x, o + d, none⟩ = some (.slice ra ln rcap)) (fun W hW => by
            have nx : ¬ rb = x := by have := RBW.out; simp at this; omega
            have hb := (CE.out _ A2.out).1
            have c3 : ((ws.drew.alloc (.cells ZR 53)).setCell ⟨rb, d, none⟩ (.slice (some ⟨ws.heap.size, 0, none⟩) ln ln)).cell? ⟨x, o + d, none⟩ = some (.slice ra ln rcap) := by
              rw [World.cell?_setCell_other _ _ _ _ (by simp [nx])]; exact SA.out.2.2
            unfold World.cell? at c3 ⊢
            rw [hW]
            refine ⟨?_, ?_, c3⟩
            · rw [hb]; rfl
            · rw [hb]; rfl)
          go_wp2
          go_region_held3 (fun w' => w'.cell? ⟨w.heap.size, 0, none⟩ = some (.slice an ln cn) ∧ w'.cell? ⟨w.heap.size, 1, none⟩ = some (.slice (some ⟨x, o, none⟩) lr cr) ∧ w'.cell? ⟨x, o + d, none⟩ = some (.slice ra ln rcap)) (first | exact SA.out | exact SB.out _ rfl | exact ⟨c0, c1, cr0⟩) (first | (go_at_call 38; refine NR.out.mono ?_; rintro e w9 ⟨rfl, rfl⟩))
          go_wp2
          go_roundw
          case rel => exact ⟨d + 1, _, by omega, by go_num, by show _ = d + 1; rw [List.length_append, QL.out]; rfl, NXT.out _, P1.out.below (below_eq (Below.refl _ _) rfl rfl rfl rfl), below_eq A2.out rfl rfl rfl rfl⟩
          case measure => simp [intOf]; omega
        · obtain rfl : d = m := by omega
          have kc : ¬ (d : Int) < (d : Int) := by omega
          have HB1 := Lib.hid b1
          obtain ⟨c2, c3, c4, c5⟩ := box_all2 b1
          clear hM hA hql hqm b0 b1
          go_wp2_with (go_at_call 39; refine (KN.out _ ES.out).mono ?_; rintro e w4 ⟨b4, m4, d4, rfl, hO, hB⟩; have O4 := Lib.hid hO; have M4 := Lib.hid (MM.out.below hB); have E4 := Lib.hid (ES.out.trans (hB.mono ES.out.size)); have HB4 := Lib.hid ((CE.out _ (AA.out.trans (hB.mono AA.out.size))).2); obtain ⟨z0, z1, z2, z3⟩ := box_all2 HB4.out; clear hO hB)
          obtain ⟨r0, r1, _, _⟩ := box_all2 (box_set2 (u := .slice b4 m4 d4) (v := .slice (some ⟨rb, 0, none⟩) d d) HB4.out)
          refine bodyPost_ret (v := .tuple #[.agg #[.slice b4 m4 d4, .slice (some ⟨rb, 0, none⟩) d d], .int .i64 0]) (by simp [results, Tryd.results15, go_sem, r0, r1]) rfl ?_
          have g1 := grT_set w4 (w.heap.size + 1) 0 (.slice b4 m4 d4)
          have g2 := grT_set (w4.setCell ⟨w.heap.size + 1, 0, none⟩ (.slice b4 m4 d4)) (w.heap.size + 1) 1 (.slice (some ⟨rb, 0, none⟩) d d)
          have bb := Joins.block_setCell (i := 0) HB4.out (.slice b4 m4 d4)
          have RO4 := M4.out.own QL.out (by unfold maxLen; omega)
          have RO5 := (RO4.turn HB4.out (by decide) (by decide) g1).turn bb (by decide) (by decide) g2
          have NO4 := own_mono O4.out ES.out.size
          rw [RLN.out.2.1, RLN.out.2.2] at NO4
          have NO5 := tbox_own (tbox_own NO4 HB4.out (by decide) g1) bb (by decide) g2
          have GD5 : Gd ss (qs.map (·.cs)) := by
            have g := GDH.out
            rw [QM.out]
            exact ⟨g.n64, g.nm, g.nd, fun r hr => g.rw r (List.mem_of_mem_take hr), fun r hr => g.st r (List.mem_of_mem_take hr), Nat.le_trans (by simp; omega) g.r4⟩
          have PT := psT_of NO5 RO5 GD5 0 0
          refine ⟨⟨b4, m4, d4, ss, some ⟨rb, 0, none⟩, d, d, qs⟩, rfl, ?_, (E4.out.setCell (p := ⟨w.heap.size + 1, 0, none⟩) (Nat.le_succ _) _).setCell (p := ⟨w.heap.size + 1, 1, none⟩) (Nat.le_succ _) _⟩
          rw [QM.out] at PT
          rw [HT.out]
          exact ⟨fun _ => PT, fun z => absurd rfl z⟩
    · have Q := Lib.hid (p := ∀ w', Below w.heap.size w w' → TabP ss (rs.take k.toNat) E w (.returned (.tuple #[.agg #[.slice none 0 0, .slice none 0 0], .int .i64 E])) w') (fun w' b => tabP_nil (by rw [e0]; exact hv) b)
      rw [← e0] at KV hv
      have v0 : (E == 0) = false := by rw [beq_eq_false_iff_ne]; exact hv
      clear h hE hlr hln e0
      obtain ⟨b0, b1⟩ := CE.out _ D0.out
      obtain ⟨c0, c1, _, _⟩ := box_all2 b0
      clear b0 b1
      go_enter Tryd.func15, Tryd.ntmps15
      go_wp2_with (go_at_call 37; refine (KV.out _ B0.out).mono ?_; rintro e w2 ⟨rfl, hB⟩; have E2 := Lib.hid (B0.out.trans (hB.mono B0.out.size)); obtain ⟨b0, b1⟩ := CE.out _ hB; have HB1 := Lib.hid b1; obtain ⟨y0, y1, y2, y3⟩ := box_all2 b1; clear hB b0 b1)
      obtain ⟨r0, r1, _, _⟩ := box_all2 (box_set2 (u := .slice none 0 0) (v := .slice none 0 0) HB1.out)
      refine bodyPost_ret (v := .tuple #[.agg #[.slice none 0 0, .slice none 0 0], .int .i64 E]) (by simp [results, Tryd.results15, go_sem, r0, r1]) rfl ?_
      exact Q.out _ ((E2.out.setCell (p := ⟨w.heap.size + 1, 0, none⟩) (Nat.le_succ _) _).setCell (p := ⟨w.heap.size + 1, 1, none⟩) (Nat.le_succ _) _)
theorem cut_any (t : Tb) (ss : List ByteArray) (rs : List (List Cl)) (k : Int) (w : World) (h : TbIs w t ss rs) (hk : k ≤ 9223372036854775807) :
    Calls Tryd.prog 15 #[t.val, .int .i64 k] w fun e w' => TabE ss (rs.take k.toNat) (cutE ss rs k) w e w' := (cutP_any t ss rs k w h hk).mono (fun _ _ q => tabP_E q)
end Go.Proofs.YtglgdfgdfkeogaaDoor
