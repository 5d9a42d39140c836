import Derived.Test.YtldplmchgmoopaaDoorXAD
import Derived.Test.YtldplmchgmoopaaDoorXAG
import Derived.Test.YtldplmchgmoopaaDoorXAK
import Derived.Test.YtldplmchgmoopaaDoorXAL
import Derived.Test.YtldplmchgmoopaaDoorXAI
namespace Go.Proofs.YtldplmchgmoopaaDoor
open Go.RowKit
set_option linter.unusedVariables false
set_option linter.unusedSimpArgs false

end Go.Proofs.YtldplmchgmoopaaDoor

namespace Go.Proofs.YtldplmchgmoopaaDoor
open Go.RowKit
set_option linter.unusedVariables false
set_option linter.unusedSimpArgs false

/-- A table as it lies in memory, and what it says. -/
structure TbIs (w : World) (t : Tb) (ss : List ByteArray) (rs : List (List Cl)) : Prop where
  nl : NL w t.an t.ln t.ss
  nn : t.an = none → t.ln = 0 ∧ t.cn = 0
  rl : RL w t.ar t.lr t.rs
  rn : t.ar = none → t.lr = 0 ∧ t.cr = 0
  ns : t.ss = ss
  rs : t.rs.map (·.cs) = rs
theorem TbIs.later {w w' : World} {t : Tb} {ss : List ByteArray} {rs : List (List Cl)} (h : TbIs w t ss rs) (b : Below w.heap.size w w') : TbIs w' t ss rs := ⟨h.nl.later b, h.nn, h.rl.later b, h.rn, h.ns, h.rs⟩
theorem PsT.is {B : Nat} {w : World} {t : Tb} {R : PR} (h : PsT B w t R) : TbIs w t R.ns R.rs := ⟨h.ok.nl, h.ok.nn, h.ok.rl, h.ok.rn, h.ns, h.rs⟩
/-- What is valid is a table that can be read back. -/
theorem dup_nodup {ss : List ByteArray} (h : dupB ss = false) : ss.Nodup := by
  rw [List.nodup_iff_pairwise_ne, List.pairwise_iff_getElem]
  intro i j hi hj hij e
  have q : colF ss (ss.getD j default) 0 = (j : Int) := by
    refine Classical.byContradiction fun k => ?_
    rw [dup_yes hj k] at h
    cases h
  have c := colF_col ss (ss.getD j default)
  rw [q] at c
  rcases c with ⟨c1, _⟩ | ⟨k, c1, c2, c3, c4⟩
  · omega
  · have : k = j := by omega
    subst this
    refine c4 i hij ?_
    simp [List.getD, hi, hj, e]
theorem gd_valid {ss : List ByteArray} {rs : List (List Cl)} (h : validE ss rs = 0) (hw : ∀ r ∈ rs, ∀ c ∈ r, (Lit.int .i64 c.v).wf = true) : Gd ss rs := by
  obtain ⟨h1, h2, h3, h4⟩ := valid_out h
  unfold validE at h
  split at h
  · omega
  · split at h
    · omega
    · split at h
      · omega
      · rename_i k1 k2 k3
        split at h
        · omega
        · rename_i k4
          simp only [Bool.or_eq_true, Bool.not_eq_true', not_or, Bool.not_eq_false, Bool.not_eq_true] at k3
          refine ⟨h1, fun n hn => List.all_eq_true.1 k3.1 n hn, dup_nodup k3.2, h4, fun r hr c hc => ⟨?_, hw r hr c hc⟩, h2⟩
          cases q : stB c with
          | false => rfl
          | true => exact absurd (List.any_eq_true.2 ⟨r, hr, List.any_eq_true.2 ⟨c, hc, q⟩⟩) k4
end Go.Proofs.YtldplmchgmoopaaDoor

namespace Go.Proofs.YtldplmchgmoopaaDoor
open Go.RowKit
set_option linter.unusedVariables false
set_option linter.unusedSimpArgs false

theorem colF_mem {ss : List ByteArray} {t : ByteArray} : 0 ≤ colF ss t 0 ↔ t ∈ ss := by
  rcases colF_col ss t with ⟨h, k⟩ | ⟨i, h, h1, h2, _⟩
  · rw [h]
    refine ⟨fun e => by omega, fun e => ?_⟩
    obtain ⟨i, hi, e⟩ := List.getElem_of_mem e
    exact absurd (by simp [List.getD, hi, e]) (k i hi)
  · rw [h]
    refine ⟨fun _ => ?_, fun _ => by omega⟩
    rw [← h2, show ss.getD i default = ss[i] by simp [List.getD, h1]]
    exact List.getElem_mem h1
theorem colF_app_old {ss q : List ByteArray} {t : ByteArray} (h : 0 ≤ colF ss t 0) : colF (ss ++ q) t 0 = colF ss t 0 := by
  refine Col.only (colF_col _ _) ?_
  rcases colF_col ss t with ⟨e, _⟩ | ⟨i, e, h1, h2, h3⟩
  · omega
  · rw [e]
    refine .inr ⟨i, rfl, by simp; omega, ?_, fun j hj => ?_⟩
    · rw [← h2]; simp only [List.getD]; rw [List.getElem?_append_left h1]
    · have := h3 j hj
      simp only [List.getD] at this ⊢
      rwa [List.getElem?_append_left (by omega)]
/-- The names of an overlay. -/
def ovN (ss tt : List ByteArray) : List ByteArray := ss ++ tt.filter fun t => decide (colF ss t 0 < 0)
/-- The column of the upper table's name. -/
def ovC (ss tt : List ByteArray) (i : Nat) : Int := colF (ovN ss tt) (tt.getD i default) 0
theorem take_split {tt : List ByteArray} {i : Nat} (hi : i < tt.length) : tt = tt.take i ++ tt.getD i default :: tt.drop (i + 1) := by
  rw [show tt.getD i default = tt[i] by simp [List.getD, hi], List.getElem_cons_drop, List.take_append_drop]
theorem ovN_mem {ss tt : List ByteArray} {t : ByteArray} : t ∈ ovN ss tt ↔ t ∈ ss ∨ t ∈ tt := by
  unfold ovN
  rw [List.mem_append, List.mem_filter]
  refine ⟨fun h => h.imp id (·.1), fun h => ?_⟩
  by_cases q : t ∈ ss
  · exact .inl q
  · refine .inr ⟨h.resolve_left q, ?_⟩
    have : ¬ 0 ≤ colF ss t 0 := fun e => q (colF_mem.1 e)
    simp; omega
theorem colF_lt {ss : List ByteArray} {t : ByteArray} (h : t ∈ ss) : ∃ c : Nat, colF ss t 0 = (c : Int) ∧ c < ss.length ∧ ss.getD c default = t := by
  rcases colF_col ss t with ⟨e, _⟩ | ⟨i, e, h1, h2, _⟩
  · have := colF_mem.2 h; omega
  · exact ⟨i, e, h1, h2⟩
theorem getD_mem {ss : List ByteArray} {i : Nat} (h : i < ss.length) : ss.getD i default ∈ ss := by
  rw [show ss.getD i default = ss[i] by simp [List.getD, h]]; exact List.getElem_mem h
theorem ovC_lt (ss : List ByteArray) {tt : List ByteArray} {i : Nat} (h : i < tt.length) : ∃ c : Nat, ovC ss tt i = (c : Int) ∧ c < (ovN ss tt).length := by
  obtain ⟨c, h1, h2, _⟩ := colF_lt (ovN_mem.2 (.inr (getD_mem h)) : tt.getD i default ∈ ovN ss tt)
  exact ⟨c, h1, h2⟩
theorem ovC_inj {ss tt : List ByteArray} (nd : tt.Nodup) {i j : Nat} (hi : i < tt.length) (hj : j < tt.length) (h : ovC ss tt i = ovC ss tt j) : i = j := by
  obtain ⟨c, h1, h2, h3⟩ := colF_lt (ovN_mem.2 (.inr (getD_mem hi)) : tt.getD i default ∈ ovN ss tt)
  obtain ⟨d, k1, k2, k3⟩ := colF_lt (ovN_mem.2 (.inr (getD_mem hj)) : tt.getD j default ∈ ovN ss tt)
  unfold ovC at h
  have e : c = d := by omega
  subst e
  rw [h3] at k3
  simp only [List.getD, List.getElem?_eq_getElem hi, List.getElem?_eq_getElem hj, Option.getD_some] at k3
  rw [List.nodup_iff_pairwise_ne, List.pairwise_iff_getElem] at nd
  rcases Nat.lt_trichotomy i j with q | q | q
  · exact absurd k3 (nd i j hi hj q)
  · exact q
  · exact absurd k3.symm (nd j i hj hi q)
theorem ovN_nodup {ss tt : List ByteArray} (h : ss.Nodup) (k : tt.Nodup) : (ovN ss tt).Nodup := by
  unfold ovN
  refine List.nodup_append.2 ⟨h, k.sublist List.filter_sublist, fun a ha b hb e => ?_⟩
  subst e
  have := (List.mem_filter.1 hb).2
  have := colF_mem.2 ha
  simp at *; omega
/-- Cells laid over a row, as far as they go. -/
def ovLay (f : Nat → Nat) (b R : List Cl) : Nat → List Cl
  | 0 => R
  | k + 1 => if (b.getD k default).h then (ovLay f b R k).set (f k) (b.getD k default) else ovLay f b R k
theorem ovLay_len (f : Nat → Nat) (b R : List Cl) : ∀ k, (ovLay f b R k).length = R.length
  | 0 => rfl
  | k + 1 => by
    unfold ovLay
    split
    · rw [List.length_set]; exact ovLay_len f b R k
    · exact ovLay_len f b R k
theorem ovLay_no (f : Nat → Nat) (b R : List Cl) (c : Nat) : ∀ k, (∀ i, i < k → f i = c → (b.getD i default).h = false) → (ovLay f b R k).getD c default = R.getD c default
  | 0, _ => rfl
  | k + 1, h => by
    have ih := ovLay_no f b R c k (fun i hi => h i (by omega))
    unfold ovLay
    split
    · rename_i q
      rw [← ih]
      have : ¬ f k = c := fun e => by rw [h k (by omega) e] at q; cases q
      simp only [List.getD]
      rw [List.getElem?_set_ne this]
    · exact ih
theorem ovLay_yes (f : Nat → Nat) (b R : List Cl) (c i : Nat) : ∀ k, i < k → f i = c → (b.getD i default).h = true → (∀ j, j < k → f j = c → j = i) → c < R.length → (ovLay f b R k).getD c default = b.getD i default
  | 0, h, _, _, _, _ => by omega
  | k + 1, h, hf, hh, hu, hc => by
    unfold ovLay
    by_cases e : i = k
    · subst e
      rw [if_pos hh, hf]
      simp only [List.getD]
      rw [List.getElem?_set_self (by rw [ovLay_len]; exact hc)]
      rfl
    · have ih := ovLay_yes f b R c i k (by omega) hf hh (fun j hj => hu j (by omega)) hc
      split
      · rw [← ih]
        have : ¬ f k = c := fun q => e (hu k (by omega) q).symm
        simp only [List.getD]
        rw [List.getElem?_set_ne this]
      · exact ih
theorem ovLay_mem (f : Nat → Nat) (b R : List Cl) (c : Cl) : ∀ k, k ≤ b.length → c ∈ ovLay f b R k → c ∈ R ∨ c ∈ b
  | 0, _, h => .inl h
  | k + 1, hk, h => by
    unfold ovLay at h
    split at h
    · rcases List.mem_or_eq_of_mem_set h with h | h
      · exact ovLay_mem f b R c k (by omega) h
      · refine .inr ?_
        rw [h, show b.getD k default = b[k] by simp [List.getD, show k < b.length by omega]]
        exact List.getElem_mem _
    · exact ovLay_mem f b R c k (by omega) h
/-- A row made as wide as that. -/
def widR (r : List Cl) (N : Nat) : List Cl := r.take N ++ List.replicate (N - r.length) zCl
theorem widR_len {r : List Cl} {N : Nat} : (widR r N).length = N := by
  unfold widR; rw [List.length_append, List.length_take, List.length_replicate]; omega
theorem widR_at {r : List Cl} {N : Nat} (h : r.length ≤ N) (c : Nat) : (widR r N).getD c default = r.getD c default := by
  unfold widR
  rw [List.take_of_length_le h]
  simp only [List.getD]
  by_cases q : c < r.length
  · rw [List.getElem?_append_left q]
  · rw [List.getElem?_append_right (by omega), List.getElem?_replicate, List.getElem?_eq_none (by omega : r.length ≤ c)]
    split <;> rfl
def ovF (ss tt : List ByteArray) (i : Nat) : Nat := (ovC ss tt i).toNat
def ovRow (ss tt : List ByteArray) (ra rb : List Cl) : List Cl := ovLay (ovF ss tt) rb (widR ra (ovN ss tt).length) rb.length
/-- The rows of an overlay. -/
def ovR (ss : List ByteArray) (ra : List (List Cl)) (tt : List ByteArray) (rb : List (List Cl)) : List (List Cl) :=
  (List.range (max ra.length rb.length)).map fun d => ovRow ss tt (ra.getD d []) (rb.getD d [])
theorem row_at {rs : List (List Cl)} {d : Nat} (h : rs.length ≤ d) : rs.getD d [] = [] := by
  simp only [List.getD]; rw [List.getElem?_eq_none h]; rfl
theorem row_len {ss : List ByteArray} {rs : List (List Cl)} (g : Gd ss rs) (d : Nat) : (rs.getD d []).length ≤ ss.length ∧ (d < rs.length → (rs.getD d []).length = ss.length) := by
  by_cases h : d < rs.length
  · have := g.rw _ (show rs.getD d [] ∈ rs by rw [show rs.getD d [] = rs[d] by simp [List.getD, h]]; exact List.getElem_mem h)
    exact ⟨by omega, fun _ => this⟩
  · rw [row_at (by omega)]; exact ⟨by simp, fun q => absurd q h⟩
theorem atD_nil (r : List Cl) (c : Nat) (h : r.length ≤ c) : r.getD c default = default := by
  simp only [List.getD]; rw [List.getElem?_eq_none h]; rfl
/-- What is said of a name on a day in an overlay. -/
theorem ov_raw {ss tt : List ByteArray} {ra rb : List (List Cl)} (g : Gd ss ra) (k : Gd tt rb) (n : ByteArray) (d : Nat) :
    rawT (ovN ss tt) (ovR ss ra tt rb) n d = if (rawT tt rb n d).h then rawT tt rb n d else rawT ss ra n d := by
  by_cases hd : d < max ra.length rb.length
  · have e : (ovR ss ra tt rb).getD d [] = ovRow ss tt (ra.getD d []) (rb.getD d []) := by unfold ovR; simp [List.getD, hd]
    unfold rawT
    rw [e]
    by_cases hn : n ∈ ovN ss tt
    · obtain ⟨c, c1, c2, c3⟩ := colF_lt hn
      rw [if_neg (show ¬ colF (ovN ss tt) n 0 < 0 by omega), c1, Int.toNat_natCast]
      have low : (ra.getD d []).getD c default = if colF ss n 0 < 0 then default else (ra.getD d []).getD (colF ss n 0).toNat default := by
        by_cases q : colF ss n 0 < 0
        · rw [if_pos q]
          refine atD_nil _ _ (Nat.le_trans (row_len g d).1 ?_)
          refine Nat.le_of_not_lt fun z => ?_
          have : n ∈ ss := by
            rw [← c3, show (ovN ss tt).getD c default = ss.getD c default by unfold ovN; simp only [List.getD]; rw [List.getElem?_append_left z]]
            exact getD_mem z
          have := colF_mem.2 this
          omega
        · rw [if_neg q]
          have : colF (ovN ss tt) n 0 = colF ss n 0 := colF_app_old (by omega)
          rw [← this, c1, Int.toNat_natCast]
      have wid : (ra.getD d []).length ≤ (ovN ss tt).length := Nat.le_trans (row_len g d).1 (by unfold ovN; simp)
      rw [← low, ← widR_at wid c]
      by_cases hq : n ∈ tt
      · obtain ⟨i, i1, i2, i3⟩ := colF_lt hq
        rw [if_neg (show ¬ colF tt n 0 < 0 by omega), i1, Int.toNat_natCast]
        have fi : ovF ss tt i = c := by unfold ovF ovC; rw [i3, c1, Int.toNat_natCast]
        cases hh : ((rb.getD d []).getD i default).h with
        | true =>
          rw [if_pos rfl]
          refine ovLay_yes _ _ _ _ _ _ ?_ fi hh (fun j hj fj => ?_) (by rw [widR_len]; exact c2)
          · refine Nat.lt_of_not_le fun z => ?_
            rw [atD_nil _ _ z] at hh
            cases hh
          · have hj' : j < tt.length := Nat.lt_of_lt_of_le hj (row_len k d).1
            refine ovC_inj (ss := ss) k.nd hj' i2 ?_
            obtain ⟨x, x1, _⟩ := ovC_lt ss hj'
            obtain ⟨y, y1, _⟩ := ovC_lt ss i2
            unfold ovF at fi fj
            rw [x1, Int.toNat_natCast] at fj
            rw [y1, Int.toNat_natCast] at fi
            rw [x1, y1, fi, fj]
        | false =>
          rw [if_neg (by simp)]
          refine ovLay_no _ _ _ _ _ (fun j hj fj => ?_)
          have hj' : j < tt.length := Nat.lt_of_lt_of_le hj (row_len k d).1
          have : j = i := by
            refine ovC_inj (ss := ss) k.nd hj' i2 ?_
            obtain ⟨x, x1, _⟩ := ovC_lt ss hj'
            obtain ⟨y, y1, _⟩ := ovC_lt ss i2
            unfold ovF at fi fj
            rw [x1, Int.toNat_natCast] at fj
            rw [y1, Int.toNat_natCast] at fi
            rw [x1, y1, fi, fj]
          rw [this]; exact hh
      · have q : colF tt n 0 < 0 := by
          have : ¬ 0 ≤ colF tt n 0 := fun z => hq (colF_mem.1 z)
          omega
        rw [if_pos q, def_h, if_neg (by simp)]
        refine ovLay_no _ _ _ _ _ (fun j hj fj => ?_)
        exfalso
        have hj' : j < tt.length := Nat.lt_of_lt_of_le hj (row_len k d).1
        obtain ⟨x, x1, x2, x3⟩ := colF_lt (ovN_mem.2 (.inr (getD_mem hj')) : tt.getD j default ∈ ovN ss tt)
        unfold ovF ovC at fj
        rw [x1, Int.toNat_natCast] at fj
        subst fj
        rw [c3] at x3
        exact hq (x3 ▸ getD_mem hj')
    · have no : ∀ l : List ByteArray, n ∉ l → colF l n 0 < 0 := fun l h => by
        have : ¬ 0 ≤ colF l n 0 := fun z => h (colF_mem.1 z)
        omega
      rw [if_pos (no _ hn), if_pos (no tt fun z => hn (ovN_mem.2 (.inr z))), if_pos (no ss fun z => hn (ovN_mem.2 (.inl z))), def_h]
      rfl
  · have e : (ovR ss ra tt rb).getD d [] = [] := row_at (by unfold ovR; simp; omega)
    have e1 := row_at (rs := ra) (d := d) (by omega)
    have e2 := row_at (rs := rb) (d := d) (by omega)
    have z : ∀ (c : Nat), ([] : List Cl).getD c default = default := fun c => rfl
    unfold rawT
    rw [e, e1, e2]
    simp only [z, ite_self, def_h]
theorem ov_gd {ss tt : List ByteArray} {ra rb : List (List Cl)} (g : Gd ss ra) (k : Gd tt rb) (hn : (ovN ss tt).length ≤ 64) : Gd (ovN ss tt) (ovR ss ra tt rb) := by
  refine ⟨hn, fun n h => (ovN_mem.1 h).elim (g.nm n) (k.nm n), ovN_nodup g.nd k.nd, fun r hr => ?_, fun r hr c hc => ?_, ?_⟩
  · obtain ⟨d, _, rfl⟩ := List.mem_map.1 hr
    unfold ovRow; rw [ovLay_len, widR_len]
  · obtain ⟨d, hd, rfl⟩ := List.mem_map.1 hr
    have mm : ∀ (rs : List (List Cl)) (d : Nat) (c : Cl), c ∈ rs.getD d [] → rs.getD d [] ∈ rs := fun rs d c hc => by
      by_cases h : d < rs.length
      · rw [show rs.getD d [] = rs[d] by simp [List.getD, h]]; exact List.getElem_mem h
      · rw [row_at (by omega)] at hc; cases hc
    rcases ovLay_mem _ _ _ c _ (Nat.le_refl _) hc with q | q
    · unfold widR at q
      rcases List.mem_append.1 q with q | q
      · have q := List.mem_of_mem_take q
        exact g.st _ (mm ra d c q) c q
      · rw [(List.mem_replicate.1 q).2]
        exact ⟨rfl, by decide⟩
    · exact k.st _ (mm rb d c q) c q
  · unfold ovR
    have := g.r4
    have := k.r4
    simp; omega
end Go.Proofs.YtldplmchgmoopaaDoor

namespace Go.Proofs.YtldplmchgmoopaaDoor
open Go.RowKit
set_option linter.unusedVariables false
set_option linter.unusedSimpArgs false

end Go.Proofs.YtldplmchgmoopaaDoor

namespace Go.Proofs.YtldplmchgmoopaaDoor
open Go.RowKit
set_option linter.unusedVariables false
set_option linter.unusedSimpArgs false

end Go.Proofs.YtldplmchgmoopaaDoor

namespace Go.Proofs.YtldplmchgmoopaaDoor
open Go.RowKit
set_option linter.unusedVariables false
set_option linter.unusedSimpArgs false

/-- A list of m rows, the first ones made. -/
structure MkR (W : World) (B rb m : Nat) (qs : List Rw) : Prop where
  hb : W.heap[rb]? = some (.cells (qs.map qv ++ List.replicate (m - qs.length) (Value.slice none 0 0)).toArray 50)
  le : qs.length ≤ m
  ok : ∀ q ∈ qs, qOk W B q
  bl : B ≤ rb
  nd : qs.Pairwise fun p q => p.a ≠ q.a
theorem MkR.below {W W' : World} {B rb m : Nat} {qs : List Rw} (h : MkR W B rb m qs) (b : Below W.heap.size W W') : MkR W' B rb m qs :=
  ⟨(b.block rb (blk_lt h.hb)).trans h.hb, h.le, fun q hq => (h.ok q hq).stay (fun z cs hz => b.block z (blk_lt hz)), h.bl, h.nd⟩
theorem MkR.cell {W : World} {B rb m : Nat} {qs : List Rw} (h : MkR W B rb m qs) (k : Nat) (hk : qs.length = k) (hm : k < m) : W.cell? ⟨rb, k, none⟩ = some (.slice none 0 0) ∧ W.frozen? ⟨rb, k, none⟩ = false := by
  refine ⟨?_, Joins.unfrozen_of_block h.hb _⟩
  rw [Joins.cell_of_block h.hb]
  subst hk
  rw [List.getElem?_toArray, List.getElem?_append_right (by simp), List.length_map, Nat.sub_self, List.getElem?_replicate, if_pos (by omega)]
theorem MkR.push {W V : World} {B rb m k z n : Nat} {qs : List Rw} {r : List Cl} (h : MkR W B rb m qs) (hk : qs.length = k) (hm : k < m) (b : Below W.heap.size W V) (hz : V.heap[z]? = some (.cells (clv r).toArray 65)) (hB : B ≤ z) (hn : r.length = n) (hf : W.heap.size ≤ z) :
    MkR (V.setCell ⟨rb, k, none⟩ (.slice (some ⟨z, 0, none⟩) n n)) B rb m (qs ++ [⟨some ⟨z, 0, none⟩, n, n, r⟩]) := by
  have h2 := h.below b
  have e := Joins.block_setCell (i := k) h2.hb (.slice (some ⟨z, 0, none⟩) n n)
  have st : ∀ (y : Nat) (cs : Array Value), V.heap[y]? = some (.cells cs 65) → (V.setCell ⟨rb, k, none⟩ (.slice (some ⟨z, 0, none⟩) n n)).heap[y]? = V.heap[y]? := fun y cs hy => (grT_set V rb k _).block y (blk_lt hy) (by have := blk_ty hy h2.hb (by decide); simpa using this)
  refine ⟨e.trans ?_, by simp; omega, fun q hq => ?_, h.bl, nd_snoc h.ok h.nd rfl hf⟩
  · congr 2
    rw [List.setIfInBounds_toArray]
    refine congrArg List.toArray ?_
    subst hk
    rw [List.set_append_right _ _ (by simp), List.length_map, Nat.sub_self, List.map_append]
    rw [show m - qs.length = (m - (qs ++ [(⟨some ⟨z, 0, none⟩, n, n, r⟩ : Rw)]).length) + 1 by simp; omega, List.replicate_succ]
    simp [qv]
  · rcases List.mem_append.1 hq with hq | hq
    · exact (h2.ok q hq).stay st
    · rw [List.mem_singleton.1 hq]
      exact qOk.stay (W := V) ⟨z, rfl, hB, hn.symm, hn.symm, hz⟩ st
theorem MkR.own {W : World} {B rb m : Nat} {qs : List Rw} (h : MkR W B rb m qs) (hm : qs.length = m) (h2 : m ≤ maxLen) : RwO W B (.slice (some ⟨rb, 0, none⟩) m m) qs := by
  have hb := h.hb
  rw [hm, Nat.sub_self, List.replicate_zero, List.append_nil] at hb
  refine ⟨⟨by simp, .inr ⟨rb, m, _, by rw [hm], h.bl, hb, by omega, h2, by simp [hm], by simp; rw [List.take_of_length_le (by simp [hm])]⟩⟩, h.ok, h.nd⟩
end Go.Proofs.YtldplmchgmoopaaDoor

namespace Go.Proofs.YtldplmchgmoopaaDoor
open Go.RowKit
set_option linter.unusedVariables false
set_option linter.unusedSimpArgs false

/-- What Cut answers. -/
def cutE (ss : List ByteArray) (rs : List (List Cl)) (k : Int) : Int := if k < 0 then 1 else validE ss rs
/-- A table that was handed out, and what it says; nothing, if there is an error. -/
def TabE (ss : List ByteArray) (rs : List (List Cl)) (E : Int) (w : World) (e : Ending) (w' : World) : Prop :=
  ∃ u : Tb, e = .returned (.tuple #[u.val, .int .i64 E]) ∧ TbIs w' u (if E = 0 then ss else []) (if E = 0 then rs else []) ∧ Below w.heap.size w w'
theorem tabE_nil {ss : List ByteArray} {rs : List (List Cl)} {E : Int} {w w' : World} (h : ¬ E = 0) (b : Below w.heap.size w w') : TabE ss rs E w (.returned (.tuple #[.agg #[.slice none 0 0, .slice none 0 0], .int .i64 E])) w' := by
  refine ⟨nilT, rfl, ?_, b⟩
  rw [if_neg h, if_neg h]
  exact (psT_nil 0 w' 0 0).is
/-- The same, with its memory. -/
def TabP (ss : List ByteArray) (rs : List (List Cl)) (E : Int) (w : World) (e : Ending) (w' : World) : Prop :=
  ∃ u : Tb, e = .returned (.tuple #[u.val, .int .i64 E]) ∧ ((E = 0 → PsT w.heap.size w' u ⟨0, 0, ss, rs⟩) ∧ (E ≠ 0 → u = nilT)) ∧ Below w.heap.size w w'
theorem tabP_nil {ss : List ByteArray} {rs : List (List Cl)} {E : Int} {w w' : World} (h : ¬ E = 0) (b : Below w.heap.size w w') : TabP ss rs E w (.returned (.tuple #[.agg #[.slice none 0 0, .slice none 0 0], .int .i64 E])) w' :=
  ⟨nilT, rfl, ⟨fun z => absurd z h, fun _ => rfl⟩, b⟩
theorem tabP_E {ss : List ByteArray} {rs : List (List Cl)} {E : Int} {w w' : World} {e : Ending} (h : TabP ss rs E w e w') : TabE ss rs E w e w' := by
  obtain ⟨u, rfl, ⟨h1, h2⟩, b⟩ := h
  by_cases z : E = 0
  · refine ⟨u, rfl, ?_, b⟩
    rw [if_pos z, if_pos z]
    exact (h1 z).is
  · rw [h2 z]
    exact tabE_nil z b
theorem two_boxes (w : World) (u v x y : Value) (t : TypeId) : Below w.heap.size w ((w.alloc (.cells #[u, v] t)).alloc (.cells #[x, y] t)) := ((Below.refl _ w).alloc (Nat.le_refl _) _).alloc (by simp) _
theorem two_cells {w W : World} {u v x y : Value} {t : TypeId} (b : Below ((w.alloc (.cells #[u, v] t)).alloc (.cells #[x, y] t)).heap.size ((w.alloc (.cells #[u, v] t)).alloc (.cells #[x, y] t)) W) :
    W.heap[w.heap.size]? = some (.cells #[u, v] t) ∧ W.heap[w.heap.size + 1]? = some (.cells #[x, y] t) := by
  refine ⟨(b.block _ (by simp; omega)).trans ((Below.heap_alloc _ _ _ (by simp)).trans (World.alloc_heap_new w _)), (b.block _ (by simp)).trans ?_⟩
  have := World.alloc_heap_new (w.alloc (.cells #[u, v] t)) (.cells #[x, y] t)
  rwa [World.size_alloc] at this
theorem below_eq {B : Nat} {a U V : World} (h : Below B a U) (h1 : V.os = U.os) (h2 : V.tape = U.tape) (h3 : V.output = U.output) (h4 : V.heap = U.heap) : Below B a V :=
  ⟨h1.trans h.os, h2.trans h.tape, h3.trans h.output, by rw [h4]; exact h.size, fun k hk => by rw [h4]; exact h.block k hk⟩
end Go.Proofs.YtldplmchgmoopaaDoor
