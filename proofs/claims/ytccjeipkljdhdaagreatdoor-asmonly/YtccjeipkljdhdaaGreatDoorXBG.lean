import Derived.Test.YtccjeipkljdhdaaGreatDoorXAP
import Derived.Test.YtccjeipkljdhdaaGreatDoorXBD
import Derived.Test.YtccjeipkljdhdaaGreatDoorXBF
import Derived.Sort.Walk0
import Derived.Test.YtccjeipkljdhdaaGreatDoorXAR
namespace Go.Proofs.YtccjeipkljdhdaaGreatDoor
open Go.RowKit
set_option linter.unusedVariables false
set_option linter.unusedSimpArgs false

/-- A byte that may stand in a word. -/
def gB (c : UInt8) : Prop := ¬ c.toNat = 32 ∧ ¬ c.toNat = 9 ∧ ¬ c.toNat = 13 ∧ ¬ c.toNat = 59 ∧ ¬ c.toNat = 10
instance (c : UInt8) : Decidable (gB c) := by unfold gB; exact inferInstance
/-- A word. -/
def gW (s : ByteArray) : Prop := s.data.toList ≠ [] ∧ ∀ c ∈ s.data.toList, gB c
instance (s : ByteArray) : Decidable (gW s) := by unfold gW; exact inferInstance
theorem gB_blank {c : UInt8} (h : gB c) : ¬ bkB c = true := by
  obtain ⟨h1, h2, h3, h4, h5⟩ := h
  unfold bkB bkA
  simp only [Bool.or_eq_true, beq_iff_eq]
  omega
theorem wLs_word : ∀ (w cur r : List UInt8), (∀ c ∈ w, gB c) → wLs cur (w ++ r) = wLs (cur ++ w) r
  | [], cur, r, _ => by simp
  | c :: w, cur, r, h => by
    have hc := h c (by simp)
    rw [List.cons_append, wLs, if_neg (gB_blank hc), if_neg hc.2.2.2.1, wLs_word w (cur ++ [c]) r (fun x hx => h x (by simp [hx])), List.append_assoc]
    rfl
theorem jn_consT (x y : ByteArray) (ws : List ByteArray) : jnL (x :: y :: ws) = x.data.toList ++ [32] ++ jnL (y :: ws) := by
  unfold jnL; simp only [List.map_cons]; rw [Lib.join_cons, Lib.join_cons]; simp [Lib.joinTail]
theorem jn_oneT (x : ByteArray) : jnL [x] = x.data.toList := by
  unfold jnL; simp only [List.map_cons, List.map_nil]; rw [Lib.join_cons]; simp [Lib.joinTail]
theorem wLs_join : ∀ (ws : List ByteArray), (∀ w ∈ ws, gW w) → wLs [] (jnL ws) = ws.map (fun x => x.data.toList)
  | [], _ => by
    have : jnL [] = [] := by simp [jnL, Lib.join_nil]
    rw [this, wLs]; rfl
  | [x], h => by
    have hx := h x (by simp)
    have := wLs_word x.data.toList [] [] hx.2
    rw [List.append_nil, List.nil_append] at this
    rw [jn_oneT, this, wLs, if_neg hx.1]; rfl
  | x :: y :: ws, h => by
    have hx := h x (by simp)
    have ih := wLs_join (y :: ws) (fun w hw => h w (List.mem_cons_of_mem _ hw))
    rw [jn_consT, List.append_assoc, wLs_word _ _ _ hx.2, List.nil_append, List.cons_append, List.nil_append, wLs, if_pos (by decide), if_neg hx.1, ih]
    rfl
/-- A line of words; an instruction's stands behind two blanks. -/
def lnB (d : Bool) (ws : List ByteArray) : ByteArray := ⟨((if d then [32, 32] else []) ++ jnL ws).toArray⟩
theorem lnB_list (d : Bool) (ws : List ByteArray) : (lnB d ws).data.toList = (if d then [32, 32] else []) ++ jnL ws := by simp [lnB]
theorem wds_lnB (d : Bool) {ws : List ByteArray} (h : ∀ w ∈ ws, gW w) : wdsL (lnB d ws) 0 = ws := by
  apply wds_of
  rw [lnB_list]
  cases d with
  | true =>
    rw [if_pos rfl, wLs_blanks [32, 32] _ (by decide)]
    exact wLs_join ws h
  | false => exact wLs_join ws h
theorem jn_bytes : ∀ (ws : List ByteArray), (∀ w ∈ ws, gW w) → ∀ c ∈ jnL ws, c ≠ 10
  | [], _, c, hc => by simp [jnL, Lib.join_nil] at hc
  | [x], h, c, hc => by
    rw [jn_oneT] at hc
    intro e
    subst e
    exact ((h x (by simp)).2 10 hc).2.2.2.2 rfl
  | x :: y :: ws, h, c, hc => by
    rw [jn_consT] at hc
    simp only [List.mem_append, List.mem_singleton] at hc
    rcases hc with (hc | hc) | hc
    · intro e
      subst e
      exact ((h x (by simp)).2 10 hc).2.2.2.2 rfl
    · subst hc; decide
    · exact jn_bytes (y :: ws) (fun w hw => h w (List.mem_cons_of_mem _ hw)) c hc
theorem noLf_lnB (d : Bool) {ws : List ByteArray} (h : ∀ w ∈ ws, gW w) : NoLf (lnB d ws) := by
  apply noLf_of
  intro c hc
  rw [lnB_list] at hc
  rcases List.mem_append.1 hc with hc | hc
  · cases d with
    | true =>
      rw [if_pos rfl] at hc
      have : c = 32 := by simpa using hc
      subst this; decide
    | false => cases hc
  · exact jn_bytes ws h c hc
/-- A program's lines: whether an instruction's, and its words. -/
def hwL (k : Nat) (ws : List ByteArray) : List (Bool × List ByteArray) := if ws = [] then [] else [(false, lnA k :: ws)]
def dwL (p : Pg) (s : Sg) : List (Bool × List ByteArray) := (false, [lnA 7, txA s.day]) :: s.code.map (fun i => (true, wdsA p.names p.curs p.pool i))
def hdwL (p : Pg) : List (Bool × List ByteArray) := hwL 0 p.names ++ (hwL 1 p.curs ++ (hwL 2 (p.pool.map txA) ++ [(false, [lnA 3, txA p.hor]), (false, [lnA 4, txA p.cells]), (false, [lnA 5, txA p.slots]), (false, [lnA 6, txA p.stack])]))
def lwP (p : Pg) : List (Bool × List ByteArray) := hdwL p ++ p.days.flatMap (dwL p)
def lnX (x : Bool × List ByteArray) : ByteArray := lnB x.1 x.2
def lnP (p : Pg) : List ByteArray := (lwP p).map lnX
theorem fx_hwL (k : Nat) (ws : List ByteArray) : (hwL k ws).flatMap (fun x => (lnX x).data.toList ++ [10]) = lnL k ws := by
  unfold hwL lnL
  by_cases h : ws = []
  · rw [if_pos h, if_pos h]; rfl
  · rw [if_neg h, if_neg h]
    simp only [List.flatMap_cons, List.flatMap_nil, List.append_nil]
    rw [show lnX (false, lnA k :: ws) = lnB false (lnA k :: ws) from rfl, lnB_list]
    cases ws with
    | nil => exact absurd rfl h
    | cons y r => rw [jn_consT]; simp
theorem fx_nm (k : Nat) (v : Int) : (lnX (false, [lnA k, txA v])).data.toList ++ [10] = nmLn k v := by
  rw [show lnX (false, [lnA k, txA v]) = lnB false [lnA k, txA v] from rfl, lnB_list]
  unfold nmLn
  simp
theorem fx_in (p : Pg) (i : In) : (lnX (true, wdsA p.names p.curs p.pool i)).data.toList ++ [10] = inLn p i := by
  rw [show lnX (true, wdsA p.names p.curs p.pool i) = lnB true (wdsA p.names p.curs p.pool i) from rfl, lnB_list]
  unfold inLn
  simp
theorem fx_dw (p : Pg) (s : Sg) : (dwL p s).flatMap (fun x => (lnX x).data.toList ++ [10]) = dyLn p s := by
  unfold dwL dyLn
  rw [List.flatMap_cons, fx_nm, List.flatMap_map]
  exact congrArg (fun f => nmLn 7 s.day ++ s.code.flatMap f) (funext (fun i => fx_in p i))
theorem fx_all (p : Pg) : (lwP p).flatMap (fun x => (lnX x).data.toList ++ [10]) = txtP p := by
  unfold lwP hdwL txtP hdT
  simp only [List.flatMap_append, List.flatMap_cons, List.flatMap_nil, List.append_nil]
  rw [fx_hwL, fx_hwL, fx_hwL, fx_nm, fx_nm, fx_nm, fx_nm, List.flatMap_assoc, show (fun s => (dwL p s).flatMap (fun x => (lnX x).data.toList ++ [10])) = dyLn p from funext (fun s => fx_dw p s)]
  simp only [List.append_assoc]
theorem txt_lfJ (p : Pg) : (⟨(txtP p).toArray⟩ : ByteArray) = lfJ (lnP p) ⟨#[]⟩ := by
  apply bytes_list
  rw [lfJ_list]
  unfold lnP
  rw [List.flatMap_map, fx_all]
  simp
theorem gW_tx (v : Int) : gW (txA v) := by
  have e : (txA v).data.toList = sg v ++ Lib.decDigits (absI v).toNat := by
    have h : absI v = ((absI v).toNat : Int) := by
      by_cases q : v < 0
      · rw [absI_neg q]; omega
      · rw [absI_pos q]; omega
    unfold txA Lib.itoa sg
    by_cases q : v < 0
    · rw [absI_neg q] at h ⊢
      rw [if_pos q, if_pos q, show v.natAbs = (-v).toNat by omega]; simp
    · rw [absI_pos q] at h ⊢
      rw [if_neg q, if_neg q]; simp
  unfold gW
  rw [e]
  have hd : ∀ c ∈ Lib.decDigits (absI v).toNat, gB c := fun c hc => by
    have := dec_d _ c hc
    unfold isD at this
    unfold gB
    omega
  refine ⟨fun q => ?_, fun c hc => ?_⟩
  · have := dec_neB (absI v).toNat
    rw [List.append_eq_nil_iff] at q
    exact this q.2
  · rcases List.mem_append.1 hc with hc | hc
    · unfold sg at hc
      split at hc
      · have : c = 45 := by simpa using hc
        subst this; decide
      · cases hc
    · exact hd c hc
theorem cap_gB {c : UInt8} (h : Lx.nmN Lx.cpN c.toNat = true) : gB c := by
  unfold Lx.nmN Lx.cpN Lx.dgN at h
  simp only [Bool.or_eq_true, Bool.and_eq_true, decide_eq_true_eq] at h
  unfold gB
  omega
theorem tw_allT {p : UInt8 → Bool} : ∀ (l : List UInt8), ¬ (l.takeWhile p).length < l.length → ∀ c ∈ l, p c = true
  | [], _, c, hc => by cases hc
  | d :: l, h, c, hc => by
    rw [List.takeWhile_cons] at h
    by_cases q : p d = true
    · rw [if_pos q, List.length_cons, List.length_cons] at h
      rcases List.mem_cons.1 hc with rfl | hc
      · exact q
      · exact tw_allT l (by omega) c hc
    · rw [if_neg q, List.length_nil, List.length_cons] at h
      omega
theorem gW_cap {s : ByteArray} (h : capP s = true) : gW s := by
  unfold capP Lx.nameB at h
  simp only [Bool.and_eq_true, decide_eq_true_eq, Bool.not_eq_true', List.isEmpty_eq_false_iff] at h
  obtain ⟨⟨h1, h2⟩, h3⟩ := h
  have e : lst s = s.data.toList := by first | rfl | simp [lst]
  rw [e] at h1 h3
  unfold Lx.nameE at h3
  split at h3
  · cases h3
  · rename_i hn
    exact ⟨h1, fun c hc => cap_gB (tw_allT _ hn c hc)⟩
theorem gW_cur {s : ByteArray} (h : curP s = true) : gW s := by
  unfold curP at h
  have e : lst s = s.data.toList := by first | rfl | simp [lst]
  rw [e] at h
  unfold gW
  match hl : s.data.toList, h with
  | [a, b, c], h =>
    simp only [Lx.curB, Bool.and_eq_true] at h
    refine ⟨by simp, fun x hx => ?_⟩
    have g : ∀ y : UInt8, Lx.cpN y.toNat = true → gB y := fun y hy => cap_gB (by unfold Lx.nmN; rw [hy]; simp)
    simp only [List.mem_cons, List.not_mem_nil, or_false] at hx
    rcases hx with rfl | rfl | rfl
    · exact g _ h.1.1
    · exact g _ h.1.2
    · exact g _ h.2
theorem gW_ln : ∀ k, k < 8 → gW (lnA k) := by
  intro k hk
  match k, hk with
  | 0, _ => decide
  | 1, _ => decide
  | 2, _ => decide
  | 3, _ => decide
  | 4, _ => decide
  | 5, _ => decide
  | 6, _ => decide
  | 7, _ => decide
theorem gW_md : ∀ k, k < 5 → gW (mdA k) := by
  intro k hk
  match k, hk with
  | 0, _ => decide
  | 1, _ => decide
  | 2, _ => decide
  | 3, _ => decide
  | 4, _ => decide
theorem gW_nm : ∀ k, k < 29 → gW (nmA k) := all29 (by decide)
end Go.Proofs.YtccjeipkljdhdaaGreatDoor

namespace Go.Proofs.YtccjeipkljdhdaaGreatDoor
open Go.RowKit
set_option linter.unusedVariables false
set_option linter.unusedSimpArgs false

theorem hdI_ln : ∀ k, k < 8 → hdI (lnA k) = k
  | 0, _ => by kernel_rfl
  | 1, _ => by kernel_rfl
  | 2, _ => by kernel_rfl
  | 3, _ => by kernel_rfl
  | 4, _ => by kernel_rfl
  | 5, _ => by kernel_rfl
  | 6, _ => by kernel_rfl
  | 7, _ => by kernel_rfl
  | n + 8, h => absurd h (by omega)
theorem hdI_nm : ∀ k, k < 29 → hdI (nmA k) = 8 := all29 (by kernel_rfl)
theorem plc_nm : ∀ k, k < 29 → plcW nmL (nmA k) = some (k : Int) := all29 (by kernel_rfl)
theorem plc_md : ∀ k, k < 5 → plcW mdL (mdA k) = some (k : Int)
  | 0, _ => by kernel_rfl
  | 1, _ => by kernel_rfl
  | 2, _ => by kernel_rfl
  | 3, _ => by kernel_rfl
  | 4, _ => by kernel_rfl
  | n + 5, h => absurd h (by omega)
theorem apAll_step {l : ByteArray} {ls : List ByteArray} {n : Nat} {st st' : Nat × Ap} {w : ByteArray} {ws : List ByteArray} (hw : wdsL l 0 = w :: ws) (ha : apLine st w ws = some st') : apAll (l :: ls) n st = apAll ls (n + 1) st' := by
  simp only [apAll, hw, ha]
theorem valW_tx {v : Int} (h : i64 v) : valW (txA v) = some v := by
  have hv : inR v := by have := i64_bd h; unfold inR; omega
  have e : Lib.itoa v = dtx v 0 := by
    have q : absI v = ((absI v).toNat : Int) := by have := absI_bd v hv; omega
    exact (word_eq13 v _ q).symm
  have e2 : (txA v).data.toList = dtx v 0 := by rw [← e]; simp [txA]
  unfold valW
  rw [e2, prs_back v hv 0]
theorem numW_tx {v : Int} (h : i64 v) (h0 : 0 ≤ v) : numW (txA v) = some v := by
  unfold numW
  rw [valW_tx h, Option.bind_some, if_pos h0]
theorem valsW_tx : ∀ (l : List Int), (∀ v ∈ l, i64 v) → valsW (l.map txA) = some l
  | [], _ => rfl
  | v :: l, h => by
    rw [List.map_cons, valsW, valW_tx (h v (by simp)), valsW_tx l (fun x hx => h x (by simp [hx]))]
    rfl
theorem mayC_at {j k : Nat} (h : j ≤ k) (hk : ∀ i, i < k → i < j ∨ i < 3 ∨ i = 7) : mayC j k = true := by
  unfold mayC
  rw [decide_eq_true h, Bool.true_and, List.all_eq_true]
  intro i hi
  have := hk i (List.mem_range.1 hi)
  unfold optA
  rcases this with q | q | q
  · rw [decide_eq_true q]; rfl
  · rw [decide_eq_true (show i < 3 ∨ i = 7 from .inl q), Bool.or_true]
  · rw [decide_eq_true (show i < 3 ∨ i = 7 from .inr q), Bool.or_true]
theorem apLine_hd {j k : Nat} (hk : k < 8) (hm : mayC j k = true) (p : Ap) (ws : List ByteArray) : apLine (j, p) (lnA k) ws = (if 3 ≤ k then apNum k ws p else apList k ws p).map fun p => (min (k + 1) 7, p) := by
  unfold apLine
  simp only [hdI_ln k hk]
  rw [if_pos hk, if_pos hm]
/-- A line of a list that may be empty. -/
theorem hw_step {k j n : Nat} (hk : k < 3) (hj : j ≤ k) {ws : List ByteArray} (hw : ∀ w ∈ ws, gW w) {p p' : Ap} (h1 : ws ≠ [] → apList k ws p = some p') (h2 : ws = [] → p' = p) (rest : List ByteArray) :
    ∃ n' j', j' ≤ k + 1 ∧ apAll ((hwL k ws).map lnX ++ rest) n (j, p) = apAll rest n' (j', p') := by
  unfold hwL
  by_cases h : ws = []
  · rw [if_pos h, h2 h]
    exact ⟨n, j, by omega, rfl⟩
  · rw [if_neg h, List.map_cons, List.map_nil, List.cons_append, List.nil_append]
    refine ⟨n + 1, k + 1, by omega, apAll_step (w := lnA k) (ws := ws) (wds_lnB false (fun w hm => ?_)) ?_⟩
    · rcases List.mem_cons.1 hm with rfl | hm
      · exact gW_ln k (by omega)
      · exact hw w hm
    · rw [apLine_hd (by omega) (mayC_at hj (fun i hi => by omega)), if_neg (by omega), h1 h, Option.map_some]
      rw [show min (k + 1) 7 = k + 1 by omega]
/-- A line of a number. -/
theorem nm_step {k j n : Nat} (hk : k < 8) (hm : mayC j k = true) (h3 : 3 ≤ k) {v : Int} (hv : i64 v) (h0 : 0 ≤ v) {p p' : Ap} (h1 : (if k = 3 then { p with hor := v } else if k = 4 then { p with cells := v } else if k = 5 then { p with slots := v } else if k = 6 then { p with stack := v } else { p with days := p.days ++ [(v, [])] }) = p') (rest : List ByteArray) :
    apAll (lnX (false, [lnA k, txA v]) :: rest) n (j, p) = apAll rest (n + 1) (min (k + 1) 7, p') := by
  refine apAll_step (w := lnA k) (ws := [txA v]) (wds_lnB false (fun w hm => ?_)) ?_
  · rcases List.mem_cons.1 hm with rfl | hm
    · exact gW_ln k (by omega)
    · rw [List.mem_singleton.1 hm]; exact gW_tx v
  · rw [apLine_hd hk hm, if_pos h3]
    unfold apNum
    simp only [numW_tx hv h0, Option.map_some]
    rw [h1]
/-- A thing's place in a list without doubles. -/
theorem plc_atT {α : Type} [DecidableEq α] {l : List α} {k : Nat} (hk : k < l.length) (hd : ∀ j (hj : j < k), l[j]'(by omega) ≠ l[k]) : plcW l l[k] = some (k : Int) := by
  unfold plcW
  rw [if_pos (List.getElem_mem hk)]
  have : l.findIdx (fun y => decide (y = l[k])) = k := by
    rw [List.findIdx_eq hk]
    exact ⟨by simp, fun j hj => by simpa using hd j hj⟩
  rw [this]
theorem riseN_lt {l : List Int} (h : riseN l) : ∀ d j, j + d + 1 < l.length → l.getD j 0 < l.getD (j + d + 1) 0
  | 0, j, hj => h j hj
  | d + 1, j, hj => by
    have := riseN_lt h d j (by omega)
    have := h (j + d + 1) (by omega)
    rw [show j + (d + 1) + 1 = j + d + 1 + 1 by omega]
    omega
theorem bs_lt {x y : ByteArray} (h : leS y x = false) : x.toList < y.toList := by
  rw [leS_ge] at h
  have h : Op.bytesLess x.toList y.toList = true := by simpa using h
  rw [bytesLess_eq] at h
  exact of_decide_eq_true h
theorem riseS_lt {l : List ByteArray} (h : riseS l) : ∀ d j, j + d + 1 < l.length → (l.getD j default).toList < (l.getD (j + d + 1) default).toList
  | 0, j, hj => bs_lt (h j hj)
  | d + 1, j, hj => by
    have a := riseS_lt h d j (by omega)
    have b := bs_lt (h (j + d + 1) (by omega))
    rw [show j + (d + 1) + 1 = j + d + 1 + 1 by omega]
    exact List.lt_trans a b
theorem plc_N {l : List Int} (h : riseN l) {k : Nat} (hk : k < l.length) : plcW l (l.getD k 0) = some (k : Int) := by
  rw [show l.getD k 0 = l[k] by simp [List.getD, hk]]
  refine plc_atT hk (fun j hj e => ?_)
  have := riseN_lt h (k - j - 1) j (by omega)
  rw [show j + (k - j - 1) + 1 = k by omega, show l.getD k 0 = l[k] by simp [List.getD, hk], show l.getD j 0 = l[j] by simp [List.getD, show j < l.length by omega]] at this
  omega
theorem plc_S {l : List ByteArray} (h : riseS l) {k : Nat} (hk : k < l.length) : plcW l (l.getD k ⟨#[]⟩) = some (k : Int) := by
  rw [show l.getD k ⟨#[]⟩ = l[k] by simp [List.getD, hk]]
  refine plc_atT hk (fun j hj e => ?_)
  have := riseS_lt h (k - j - 1) j (by omega)
  rw [show j + (k - j - 1) + 1 = k by omega, show l.getD k default = l[k] by simp [List.getD, hk], show l.getD j default = l[j] by simp [List.getD, show j < l.length by omega], e] at this
  exact List.lt_irrefl _ this
/-- What a program keeps to, for its text to be read. -/
structure RdP (p : Pg) : Prop where
  hv : ∀ v ∈ p.pool, i64 v
  rn : riseS p.names
  rc : riseS p.curs
  rp : riseN p.pool
  gn : ∀ s ∈ p.names, gW s
  gc : ∀ s ∈ p.curs, gW s
theorem wdsA_cons (ns cs : List ByteArray) (pl : List Int) (i : In) : wdsA ns cs pl i = nmA i.o.toNat :: [fstW ns cs pl i, txA i.b].take (onA i.o.toNat) := by
  unfold wdsA
  rw [Nat.add_comm, List.take_succ_cons]
def apD (p : Pg) (D : List (Int × List In)) : Ap := ⟨p.names, p.curs, p.pool, p.hor, p.cells, p.slots, p.stack, D⟩
theorem opd_back {p : Pg} (h : RdP p) (D : List (Int × List In)) {i : In} (hi : i.okP) (hb : inB p i) : opdW (apD p D) i.o.toNat (fstW p.names p.curs p.pool i) = some i.a := by
  obtain ⟨h1, h2, h3, h4, h5, h6⟩ := hi
  obtain ⟨b1, b3, b28, _, _⟩ := hb
  have ea : i.a = (i.a.toNat : Int) := by omega
  have tf := tab_facts i.o.toNat (by omega)
  unfold opdW fstW apD
  by_cases c1 : i.o = 1
  · have hk : i.a.toNat < p.pool.length := by have := b1 c1; omega
    rw [if_pos c1, if_pos (by omega), valW_tx (h.hv _ (by simp [List.getD, hk])), Option.bind_some, plc_N h.rp hk, ← ea]
  rw [if_neg c1, if_neg (by omega)]
  by_cases c3 : i.o = 3
  · have hk : i.a.toNat < p.names.length := by have := b3 c3; omega
    rw [if_pos c3, if_pos (by omega), plc_S h.rn hk, ← ea]
  rw [if_neg c3, if_neg (by omega)]
  by_cases c28 : i.o = 28
  · have hk : i.a.toNat < p.curs.length := by have := b28 c28; omega
    rw [if_pos c28, if_pos (by omega), plc_S h.rc hk, ← ea]
  rw [if_neg c28, if_neg (by omega)]
  by_cases c18 : i.o = 18
  · rw [if_pos c18, if_pos (by omega), plc_md _ (by
      rw [c18] at h4
      have : baA (18 : Int).toNat = 4 := rfl
      omega), ← ea]
  rw [if_neg c18, if_neg (by omega)]
  exact numW_tx (by rw [ea]; exact i64_nat (by omega)) h3
theorem ins_back {p : Pg} (h : RdP p) (D : List (Int × List In)) {i : In} (hi : i.okP) (hb : inB p i) : insW (apD p D) (nmA i.o.toNat) ([fstW p.names p.curs p.pool i, txA i.b].take (onA i.o.toNat)) = some i := by
  have hi' := hi
  have od := opd_back h D hi hb
  obtain ⟨h1, h2, h3, h4, h5, h6⟩ := hi
  have tf := tab_facts i.o.toNat (by omega)
  unfold insW
  rw [plc_nm _ (by omega), Option.bind_some, Int.toNat_natCast]
  unfold insK
  rw [if_pos (by rw [List.length_take]; simp; omega)]
  have A : (if onA i.o.toNat = 0 then some 0 else opdW (apD p D) i.o.toNat (([fstW p.names p.curs p.pool i, txA i.b].take (onA i.o.toNat)).getD 0 ⟨#[]⟩)) = some i.a := by
    by_cases e : onA i.o.toNat = 0
    · rw [if_pos e, show i.a = 0 by have := tf.2.2.2.2.2.1 e; omega]
    · rw [if_neg e, show ([fstW p.names p.curs p.pool i, txA i.b].take (onA i.o.toNat)).getD 0 ⟨#[]⟩ = fstW p.names p.curs p.pool i by
        obtain ⟨m, hm⟩ : ∃ m, onA i.o.toNat = m + 1 := ⟨onA i.o.toNat - 1, by omega⟩
        rw [hm, List.take_succ_cons]; rfl]
      exact od
  have B : (if onA i.o.toNat ≤ 1 then some 0 else numW (([fstW p.names p.curs p.pool i, txA i.b].take (onA i.o.toNat)).getD 1 ⟨#[]⟩)) = some i.b := by
    by_cases e : onA i.o.toNat ≤ 1
    · rw [if_pos e, show i.b = 0 by have := tf.2.2.2.2.2.2 e; omega]
    · rw [if_neg e, show onA i.o.toNat = 2 by omega]
      show numW (txA i.b) = some i.b
      exact numW_tx (by rw [show i.b = (i.b.toNat : Int) by omega]; exact i64_nat (by omega)) h5
  rw [A, Option.bind_some, B, Option.bind_some]
  have ei : In.mk (i.o.toNat : Int) i.a i.b = i := by
    obtain ⟨o, a, b⟩ := i
    simp only at h1 ⊢
    rw [Int.toNat_of_nonneg h1]
  rw [ei, if_pos hi']
theorem gW_wds {p : Pg} (h : RdP p) {i : In} (hi : i.okP) (hb : inB p i) : ∀ w ∈ wdsA p.names p.curs p.pool i, gW w := by
  obtain ⟨h1, h2, h3, h4, h5, h6⟩ := hi
  obtain ⟨b1, b3, b28, _, _⟩ := hb
  intro w hw
  have hw := List.mem_of_mem_take hw
  simp at hw
  rcases hw with rfl | rfl | rfl
  · exact gW_nm _ (by omega)
  · unfold fstW
    by_cases c1 : i.o = 1
    · rw [if_pos c1]; exact gW_tx _
    rw [if_neg c1]
    by_cases c3 : i.o = 3
    · have hk : i.a.toNat < p.names.length := by have := b3 c3; omega
      rw [if_pos c3, show p.names.getD i.a.toNat ⟨#[]⟩ = p.names[i.a.toNat] by simp [List.getD, hk]]
      exact h.gn _ (List.getElem_mem hk)
    rw [if_neg c3]
    by_cases c28 : i.o = 28
    · have hk : i.a.toNat < p.curs.length := by have := b28 c28; omega
      rw [if_pos c28, show p.curs.getD i.a.toNat ⟨#[]⟩ = p.curs[i.a.toNat] by simp [List.getD, hk]]
      exact h.gc _ (List.getElem_mem hk)
    rw [if_neg c28]
    by_cases c18 : i.o = 18
    · rw [if_pos c18]
      exact gW_md _ (by
        rw [c18] at h4
        have : baA (18 : Int).toNat = 4 := rfl
        omega)
    rw [if_neg c18]
    exact gW_tx _
  · exact gW_tx _
theorem addI_last (D : List (Int × List In)) (d : Int) (c : List In) (i : In) : addI (D ++ [(d, c)]) i = D ++ [(d, c ++ [i])] := by
  unfold addI
  rw [List.getLast?_concat, List.dropLast_concat]
theorem in_step {p : Pg} (h : RdP p) {i : In} (hi : i.okP) (hb : inB p i) (D : List (Int × List In)) (d : Int) (c : List In) (n : Nat) (rest : List ByteArray) :
    apAll (lnX (true, wdsA p.names p.curs p.pool i) :: rest) n (7, apD p (D ++ [(d, c)])) = apAll rest (n + 1) (7, apD p (D ++ [(d, c ++ [i])])) := by
  have g := gW_wds h hi hb
  have ib := ins_back h (D ++ [(d, c)]) hi hb
  have hk : i.o.toNat < 29 := by have := hi.1; have := hi.2.1; omega
  have lw : wdsL (lnX (true, wdsA p.names p.curs p.pool i)) 0 = wdsA p.names p.curs p.pool i := wds_lnB true g
  rw [wdsA_cons] at lw
  rw [wdsA_cons]
  refine apAll_step lw ?_
  unfold apLine
  rw [hdI_nm _ hk, if_neg (by omega)]
  have ne : ¬ (apD p (D ++ [(d, c)])).days = [] := by
    show ¬ (D ++ [(d, c)]) = []
    simp
  simp only
  rw [if_neg ne, ib, Option.map_some]
  show some (7, _) = _
  unfold apD
  rw [addI_last]
theorem code_step {p : Pg} (h : RdP p) : ∀ (code : List In), (∀ i ∈ code, i.okP ∧ inB p i) → ∀ (D : List (Int × List In)) (d : Int) (c : List In) (n : Nat) (rest : List ByteArray),
    apAll ((code.map (fun i => (true, wdsA p.names p.curs p.pool i))).map lnX ++ rest) n (7, apD p (D ++ [(d, c)])) = apAll rest (n + code.length) (7, apD p (D ++ [(d, c ++ code)]))
  | [], _, D, d, c, n, rest => by simp
  | i :: code, hc, D, d, c, n, rest => by
    have hi := hc i (by simp)
    rw [List.map_cons, List.map_cons, List.cons_append, in_step h hi.1 hi.2, code_step h code (fun x hx => hc x (by simp [hx])), List.append_assoc, List.length_cons]
    rw [show n + 1 + code.length = n + (code.length + 1) by omega]
    rfl
theorem days_step {p : Pg} (h : RdP p) : ∀ (days : List Sg), (∀ s ∈ days, i64 s.day ∧ 0 ≤ s.day ∧ ∀ i ∈ s.code, i.okP ∧ inB p i) → ∀ (D : List (Int × List In)) (n : Nat),
    ∃ n', apAll ((days.flatMap (dwL p)).map lnX) n (7, apD p D) = .ok (n', (7, apD p (D ++ days.map Sg.key)))
  | [], _, D, n => ⟨n, by simp [apAll]⟩
  | s :: days, hs, D, n => by
    have hh := hs s (by simp)
    obtain ⟨n', e⟩ := days_step h days (fun x hx => hs x (by simp [hx])) (D ++ [(s.day, s.code)]) (n + 1 + s.code.length)
    refine ⟨n', ?_⟩
    rw [List.flatMap_cons, List.map_append]
    unfold dwL
    rw [List.map_cons, List.cons_append]
    have st := nm_step (k := 7) (j := 7) (n := n) (by omega) (mayC_at (by omega) (fun i hi => by omega)) (by omega) hh.1 hh.2.1 (p := apD p D) (p' := apD p (D ++ [(s.day, [])])) rfl
    rw [st, show min (7 + 1) 7 = 7 from rfl, code_step h s.code hh.2.2, List.nil_append]
    unfold dwL at e
    rw [e, List.map_cons]
    show Except.ok (n', (7, apD p (D ++ [(s.day, s.code)] ++ _))) = _
    rw [List.append_assoc]
    rfl
end Go.Proofs.YtccjeipkljdhdaaGreatDoor

namespace Go.Proofs.YtccjeipkljdhdaaGreatDoor
open Go.RowKit
set_option linter.unusedVariables false
set_option linter.unusedSimpArgs false

theorem RdP.of {w : World} {p : Pg} (h : PV w p) (hc : canP p) : RdP p := by
  obtain ⟨c1, ⟨l1, l2, l3, l4, l5, l6, l7, l8⟩, _, _⟩ := hc
  exact ⟨h.pool.2.2.2.1, l3, l6, l8, fun s hs => gW_cap (List.all_eq_true.1 l2 s hs), fun s hs => gW_cur (List.all_eq_true.1 l5 s hs)⟩
theorem days_can {p : Pg} (hc : canP p) : ∀ s ∈ p.days, i64 s.day ∧ 0 ≤ s.day ∧ ∀ i ∈ s.code, i.okP ∧ inB p i := by
  obtain ⟨c1, _, ⟨d1, d2⟩, ⟨u1, u2⟩⟩ := hc
  have hor := numP_hor c1
  intro s hs
  obtain ⟨k, hk, rfl⟩ := List.getElem_of_mem hs
  have a := preD_le (k := k) (fun i hi => d1 i (by omega)) hor.1
  have b := d1 k hk
  unfold dayI at b
  have e : p.days.getD k default = p.days[k] := by simp [List.getD, hk]
  rw [e] at b
  have d0 : 0 ≤ p.days[k].day := by omega
  refine ⟨?_, d0, fun i hi => ?_⟩
  · rw [show p.days[k].day = (p.days[k].day.toNat : Int) by omega]; exact i64_nat (by omega)
  · have := u1 k hk
    rw [e] at this
    obtain ⟨m, hm, rfl⟩ := List.getElem_of_mem hi
    have := this.2 m hm
    unfold insI at this
    rw [show (p.days[k]).code.getD m default = (p.days[k]).code[m] by simp [List.getD, hm]] at this
    exact ⟨this.2.1, this.2.2⟩
theorem gW_hw {k : Nat} (hk : k < 8) {ws : List ByteArray} (h : ∀ w ∈ ws, gW w) : ∀ x ∈ hwL k ws, ∀ w ∈ x.2, gW w := by
  intro x hx w hw
  unfold hwL at hx
  split at hx
  · cases hx
  · rw [List.mem_singleton.1 hx] at hw
    rcases List.mem_cons.1 hw with rfl | hw
    · exact gW_ln k hk
    · exact h w hw
theorem gW_num {k : Nat} (hk : k < 8) (v : Int) : ∀ w ∈ [lnA k, txA v], gW w := by
  intro w hw
  rcases List.mem_cons.1 hw with rfl | hw
  · exact gW_ln k hk
  · rw [List.mem_singleton.1 hw]; exact gW_tx v
theorem gW_pool (l : List Int) : ∀ w ∈ l.map txA, gW w := by
  intro w hw
  obtain ⟨v, _, rfl⟩ := List.mem_map.1 hw
  exact gW_tx v
theorem gW_lw {p : Pg} (h : RdP p) (hd : ∀ s ∈ p.days, i64 s.day ∧ 0 ≤ s.day ∧ ∀ i ∈ s.code, i.okP ∧ inB p i) : ∀ x ∈ lwP p, ∀ w ∈ x.2, gW w := by
  intro x hx
  unfold lwP hdwL at hx
  simp only [List.mem_append, List.mem_cons, List.not_mem_nil, or_false] at hx
  rcases hx with (hx | hx | hx | rfl | rfl | rfl | rfl) | hx
  · exact gW_hw (by omega) h.gn x hx
  · exact gW_hw (by omega) h.gc x hx
  · exact gW_hw (by omega) (gW_pool _) x hx
  · exact gW_num (by omega) _
  · exact gW_num (by omega) _
  · exact gW_num (by omega) _
  · exact gW_num (by omega) _
  · obtain ⟨s, hs, hx⟩ := List.mem_flatMap.1 hx
    unfold dwL at hx
    rcases List.mem_cons.1 hx with rfl | hx
    · exact gW_num (by omega) _
    · obtain ⟨i, hi, rfl⟩ := List.mem_map.1 hx
      have := (hd s hs).2.2 i hi
      exact gW_wds h this.1 this.2
/-- The text's lines. -/
theorem lns_txt {p : Pg} (h : RdP p) (hd : ∀ s ∈ p.days, i64 s.day ∧ 0 ≤ s.day ∧ ∀ i ∈ s.code, i.okP ∧ inB p i) : lnsR ⟨(txtP p).toArray⟩ = lnP p := by
  rw [txt_lfJ, lnsR_lfJ _ _ ?_, lnsR_nil (by decide), List.append_nil]
  intro a ha
  obtain ⟨x, hx, rfl⟩ := List.mem_map.1 ha
  exact noLf_lnB x.1 (gW_lw h hd x hx)
theorem numP_all {p : Pg} (h : numP p = true) : (0 ≤ p.hor ∧ p.hor ≤ 3660) ∧ (0 ≤ p.cells ∧ p.cells ≤ 32768) ∧ (0 ≤ p.slots ∧ p.slots ≤ 16384) ∧ (0 ≤ p.stack ∧ p.stack ≤ 16384) := by
  unfold numP wB at h
  simp only [Bool.and_eq_true, decide_eq_true_eq] at h
  exact ⟨h.1.1.1, h.1.1.2, h.1.2, h.2⟩
theorem apAll_txt {p : Pg} (h : RdP p) (hc : canP p) : ∃ n, apAll (lnP p) 0 (0, Ap.zero) = .ok (n, (7, apD p (p.days.map Sg.key))) := by
  have hd := days_can hc
  obtain ⟨c1, ⟨l1, l2, l3, l4, l5, l6, l7, l8⟩, _, _⟩ := hc
  obtain ⟨⟨a1, a2⟩, ⟨a3, a4⟩, ⟨a5, a6⟩, ⟨a7, a8⟩⟩ := numP_all c1
  have ii : ∀ {v : Int}, 0 ≤ v → v ≤ 32768 → i64 v := fun {v} h1 h2 => by
    rw [show v = (v.toNat : Int) by omega]; exact i64_nat (by omega)
  unfold lnP lwP hdwL
  simp only [List.map_append, List.map_cons, List.map_nil, List.append_assoc, List.cons_append, List.nil_append]
  obtain ⟨n0, j0, q0, e0⟩ := hw_step (k := 0) (j := 0) (n := 0) (by omega) (by omega) h.gn (p := Ap.zero) (p' := ⟨p.names, [], [], 0, 0, 0, 0, []⟩) (fun ne => by unfold apList; rw [if_neg ne, if_pos rfl, if_pos l2]; rfl) (fun e => by rw [e]; rfl) ((hwL 1 p.curs).map lnX ++ ((hwL 2 (p.pool.map txA)).map lnX ++ lnX (false, [lnA 3, txA p.hor]) :: lnX (false, [lnA 4, txA p.cells]) :: lnX (false, [lnA 5, txA p.slots]) :: lnX (false, [lnA 6, txA p.stack]) :: (p.days.flatMap (dwL p)).map lnX))
  obtain ⟨n1, j1, q1, e1⟩ := hw_step (k := 1) (j := j0) (n := n0) (by omega) (by omega) h.gc (p := ⟨p.names, [], [], 0, 0, 0, 0, []⟩) (p' := ⟨p.names, p.curs, [], 0, 0, 0, 0, []⟩) (fun ne => by unfold apList; rw [if_neg ne, if_neg (by omega), if_pos rfl, if_pos l5]) (fun e => by rw [e]) ((hwL 2 (p.pool.map txA)).map lnX ++ lnX (false, [lnA 3, txA p.hor]) :: lnX (false, [lnA 4, txA p.cells]) :: lnX (false, [lnA 5, txA p.slots]) :: lnX (false, [lnA 6, txA p.stack]) :: (p.days.flatMap (dwL p)).map lnX)
  obtain ⟨n2, j2, q2, e2⟩ := hw_step (k := 2) (j := j1) (n := n1) (by omega) (by omega) (gW_pool p.pool) (p := ⟨p.names, p.curs, [], 0, 0, 0, 0, []⟩) (p' := ⟨p.names, p.curs, p.pool, 0, 0, 0, 0, []⟩) (fun ne => by unfold apList; rw [if_neg ne, if_neg (by omega), if_neg (by omega), valsW_tx _ h.hv]; rfl) (fun e => by rw [show p.pool = [] by simpa using e]) (lnX (false, [lnA 3, txA p.hor]) :: lnX (false, [lnA 4, txA p.cells]) :: lnX (false, [lnA 5, txA p.slots]) :: lnX (false, [lnA 6, txA p.stack]) :: (p.days.flatMap (dwL p)).map lnX)
  rw [e0, e1, e2]
  rw [nm_step (k := 3) (by omega) (mayC_at (by omega) (fun i hi => by omega)) (by omega) (ii a1 (by omega)) a1 (p' := ⟨p.names, p.curs, p.pool, p.hor, 0, 0, 0, []⟩) rfl]
  rw [show min (3 + 1) 7 = 4 from rfl]
  rw [nm_step (k := 4) (by omega) (mayC_at (by omega) (fun i hi => by omega)) (by omega) (ii a3 (by omega)) a3 (p' := ⟨p.names, p.curs, p.pool, p.hor, p.cells, 0, 0, []⟩) rfl]
  rw [show min (4 + 1) 7 = 5 from rfl]
  rw [nm_step (k := 5) (by omega) (mayC_at (by omega) (fun i hi => by omega)) (by omega) (ii a5 (by omega)) a5 (p' := ⟨p.names, p.curs, p.pool, p.hor, p.cells, p.slots, 0, []⟩) rfl]
  rw [show min (5 + 1) 7 = 6 from rfl]
  rw [nm_step (k := 6) (by omega) (mayC_at (by omega) (fun i hi => by omega)) (by omega) (ii a7 (by omega)) a7 (p' := ⟨p.names, p.curs, p.pool, p.hor, p.cells, p.slots, p.stack, []⟩) rfl]
  rw [show min (6 + 1) 7 = 7 from rfl]
  exact days_step h p.days hd [] (n2 + 1 + 1 + 1 + 1)
theorem inLn_le61 {p : Pg} (hN : ∀ s ∈ p.names, s.size ≤ 31) (hU : ∀ s ∈ p.curs, s.size ≤ 31) (hP : ∀ v ∈ p.pool, i64 v) (i : In) (hi : i.okP) : (inLn p i).length ≤ 61 := by
  obtain ⟨h1, h2, h3, h4, h5, h6⟩ := hi
  have tf := tab_facts i.o.toNat (by omega)
  have gs : ∀ (l : List ByteArray) (k : Nat), (∀ s ∈ l, s.size ≤ 31) → (l.getD k ⟨#[]⟩).size ≤ 31 := fun l k hl => by
    by_cases hk : k < l.length
    · exact hl _ (by simp [List.getD, hk])
    · rw [show l.getD k ⟨#[]⟩ = ⟨#[]⟩ by simp [List.getD, List.getElem?_eq_none (show l.length ≤ k by omega)]]; decide
  have n1 : i64 i.a := by rw [show i.a = (i.a.toNat : Int) by omega]; exact i64_nat (by omega)
  have n2 : i64 i.b := by rw [show i.b = (i.b.toNat : Int) by omega]; exact i64_nat (by omega)
  have f : (fstW p.names p.curs p.pool i).size ≤ 31 := by
    unfold fstW
    split
    · have : i64 (p.pool.getD i.a.toNat 0) := by
        by_cases hk : i.a.toNat < p.pool.length
        · exact hP _ (by simp [List.getD, hk])
        · rw [show p.pool.getD i.a.toNat 0 = 0 by simp [List.getD, List.getElem?_eq_none (show p.pool.length ≤ i.a.toNat by omega)]]
          exact i64_nat (k := 0) (by omega)
      have := txA_len this; omega
    split
    · exact gs _ _ hN
    split
    · exact gs _ _ hU
    split
    · rename_i e
      rw [e] at h4
      have : baA (18 : Int).toNat = 4 := rfl
      have := md_some i.a.toNat (by omega)
      omega
    · have := txA_len n1; omega
  have t : (txA i.b).size ≤ 4 := by
    have d := dec_len 3 i.b.toNat (by omega)
    unfold txA Lib.itoa
    rw [if_neg (by omega)]
    show (Lib.decDigits i.b.toNat).toArray.size ≤ 4
    rw [List.size_toArray]
    exact d
  have nm := nm_size i.o.toNat (by omega)
  have sz : ∀ s : ByteArray, s.data.toList.length = s.size := fun s => Array.length_toList
  unfold inLn
  have on := tf.1
  rw [wdsA_cons]
  simp only [List.length_append, List.length_cons, List.length_nil]
  have j : (jnL (nmA i.o.toNat :: [fstW p.names p.curs p.pool i, txA i.b].take (onA i.o.toNat))).length ≤ 58 := by
    match onA i.o.toNat, on with
    | 0, _ => rw [List.take_zero, jn_oneT, sz]; omega
    | 1, _ => rw [show [fstW p.names p.curs p.pool i, txA i.b].take 1 = [fstW p.names p.curs p.pool i] from rfl, jn_consT, jn_oneT]; simp only [List.length_append, sz, List.length_cons, List.length_nil]; omega
    | 2, _ => rw [show [fstW p.names p.curs p.pool i, txA i.b].take 2 = [fstW p.names p.curs p.pool i, txA i.b] from rfl, jn_consT, jn_consT, jn_oneT]; simp only [List.length_append, sz, List.length_cons, List.length_nil]; omega
  omega
theorem days_le61 {p : Pg} (hS : ∀ s ∈ p.days, i64 s.day) (hI : ∀ s ∈ p.days, ∀ i ∈ s.code, (inLn p i).length ≤ 61) : ∀ k, k ≤ p.days.length → ((p.days.take k).flatMap (dyLn p)).length ≤ k * 50 + totN p.days k * 61
  | 0, _ => by simp
  | k + 1, h => by
    have ih := days_le61 hS hI k (by omega)
    have hk : k < p.days.length := by omega
    rw [flat_next _ _ _ hk, List.length_append, totN_next hk]
    have hm := sg_mem hk
    have d : (dyLn p (p.days.getD k default)).length ≤ 50 + (p.days.getD k default).code.length * 61 := by
      unfold dyLn
      rw [List.length_append]
      have := nmLn_le 7 (by omega) _ (hS _ hm)
      have := flat_le (inLn p) 61 (p.days.getD k default).code (hI _ hm)
      omega
    rw [Nat.add_mul, Nat.add_mul]
    omega
theorem txt_small {w : World} {p : Pg} (h : PV w p) (hc : canP p) : (txtP p).length ≤ 16777216 := by
  have hd := days_can hc
  obtain ⟨c1, ⟨l1, l2, l3, l4, l5, l6, l7, l8⟩, ⟨d1, d2⟩, ⟨u1, u2⟩⟩ := hc
  have hN : ∀ s ∈ p.names, s.size ≤ 31 := fun s hs => cap_size (List.all_eq_true.1 l2 s hs)
  have hU : ∀ s ∈ p.curs, s.size ≤ 31 := fun s hs => cur_size (List.all_eq_true.1 l5 s hs)
  have hor := numP_hor c1
  have dl := preD_le (k := p.days.length) d1 hor.1
  have t := days_le61 (p := p) (fun s hs => (h.days.2.2.2.1 s hs).1) (fun s hs i hi => inLn_le61 hN hU h.pool.2.2.2.1 i ((hd s hs).2.2 i hi).1) p.days.length (Nat.le_refl _)
  rw [List.take_length] at t
  have a0 := lnL_le 0 31 (by omega) p.names hN
  have a1 := lnL_le 1 31 (by omega) p.curs hU
  have a2 := lnL_le 2 21 (by omega) (p.pool.map txA) (by
    intro s hs
    obtain ⟨v, hv, rfl⟩ := List.mem_map.1 hs
    exact txA_len (h.pool.2.2.2.1 v hv))
  have a3 := nmLn_le 3 (by omega) _ h.hor
  have a4 := nmLn_le 4 (by omega) _ h.cells
  have a5 := nmLn_le 5 (by omega) _ h.slots
  have a6 := nmLn_le 6 (by omega) _ h.stack
  rw [List.length_map] at a2
  rw [len_txt]
  have dl' : p.days.length ≤ 3661 := by omega
  omega
theorem apD_key (p : Pg) : (apD p (p.days.map Sg.key)).pg.key = p.key := by
  unfold Ap.pg apD Pg.key
  simp only [List.map_map]
  congr 7
/-- What reading a program's text comes to. -/
theorem out_txt {w : World} {p : Pg} (h : PV w p) (hc : canP p) : outA ⟨(txtP p).toArray⟩ = (apD p (p.days.map Sg.key), 0, 0) := by
  have R := RdP.of h hc
  obtain ⟨n, e⟩ := apAll_txt R hc
  have sz : (⟨(txtP p).toArray⟩ : ByteArray).size ≤ 16777216 := by
    show (txtP p).toArray.size ≤ _
    rw [List.size_toArray]; exact txt_small h hc
  have m : mayC 7 8 = true := by rw [mayC_end 7 (by omega)]; rfl
  have c := can_key1Q (apD_key p).symm hc
  unfold outA
  rw [if_neg (by omega), lns_txt R (days_can hc), e]
  simp only [if_pos m, if_pos c]
theorem txt_keyQ {p q : Pg} (h : q.key = p.key) : txtP q = txtP p := by
  obtain ⟨e0, e1, e2, e3, e4, e5, e6, e7⟩ := key_of h
  have d : ∀ r : Pg, (r.days.flatMap (dyLn r)) = (r.days.map Sg.key).flatMap (fun x => nmLn 7 x.1 ++ x.2.flatMap (inLn r)) := fun r => by
    rw [List.flatMap_map]; rfl
  have il : inLn q = inLn p := by
    funext i
    unfold inLn
    rw [e0, e1, e2]
  unfold txtP hdT
  rw [d q, d p, e0, e1, e2, e3, e4, e5, e6, e7, il]
/-- What AsmOnly says of what reading comes to. -/
theorem out_bad {s : ByteArray} (h : (outA s).2.2 ≠ 0) : (outA s).1 = Ap.zero ∧ ((outA s).2.2 = 131 ↔ 0 < (outA s).2.1) := by
  unfold outA at h ⊢
  split
  · simp
  · rename_i hz
    rw [if_neg hz] at h
    cases ha : apAll (lnsR s) 0 (0, Ap.zero) with
    | error n =>
      have := (apAll_first _ _ _ ha).1
      exact ⟨rfl, fun _ => show (0 : Int) < (n : Int) by omega, fun _ => rfl⟩
    | ok r =>
      obtain ⟨n, st⟩ := r
      rw [ha] at h
      simp only at h ⊢
      split
      · rename_i hm
        rw [if_pos hm] at h
        split
        · rename_i hcn
          rw [if_pos hcn] at h
          exact absurd rfl h
        · simp
      · exact ⟨rfl, fun _ => show (0 : Int) < ((n + 1 : Nat) : Int) by omega, fun _ => rfl⟩
theorem out_good {s : ByteArray} (h : (outA s).2.2 = 0) : canP (outA s).1.pg ∧ (outA s).2.1 = 0 := by
  unfold outA at h ⊢
  split
  · rename_i hz
    rw [if_pos hz] at h
    simp at h
  · rename_i hz
    rw [if_neg hz] at h
    cases ha : apAll (lnsR s) 0 (0, Ap.zero) with
    | error n => rw [ha] at h; simp at h
    | ok r =>
      obtain ⟨n, st⟩ := r
      rw [ha] at h
      simp only at h ⊢
      split
      · rename_i hm
        rw [if_pos hm] at h
        split
        · rename_i hcn
          exact ⟨hcn, rfl⟩
        · rename_i hcn
          rw [if_neg hcn] at h
          simp at h
      · rename_i hm
        rw [if_neg hm] at h
        simp at h
end Go.Proofs.YtccjeipkljdhdaaGreatDoor
