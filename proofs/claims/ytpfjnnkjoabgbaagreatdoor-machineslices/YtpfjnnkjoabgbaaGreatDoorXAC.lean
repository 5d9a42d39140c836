import Derived.Test.YtpfjnnkjoabgbaaGreatDoorXAB
import Derived.Test.YtpfjnnkjoabgbaaGreatDoorXAA
import Derived.Test.YtpfjnnkjoabgbaaGreatDoorRows
import Derived.WalkKit
import Derived.WalkSpells
import Derived.Below
import Derived.BigCall
import Derived.BigGuard
import Derived.BigQuiet
import Derived.Deep.QuietTactic
import Derived.Deep.RegionHeld3
import Derived.Lib.LaidTab
import Derived.Lib.Hide
import Derived.Lib.SmallJoins
import Derived.Laws.BitsAllLaws
namespace Go.Proofs.YtpfjnnkjoabgbaaGreatDoor
open Go.RowKit
set_option linter.unusedVariables false
set_option linter.unusedSimpArgs false
theorem own_cellsP {W : World} {B g k m c : Nat} {T : TypeId} {n : Nat} {xs : List Value} (h : W.ownsRow B T k (.slice (some ⟨g, 0, none⟩) m c) n xs) (j : Nat) (u : Value) (hj : xs[j]? = some u) : W.cell? ⟨g, j, none⟩ = some u := by
  have := h.cells (g := g) rfl j u hj
  rw [Go.Addr.add_lit, Nat.zero_add] at this
  exact this
theorem own_capP {W : World} {B g k m c : Nat} {T : TypeId} {n : Nat} {xs : List Value} (h : W.ownsRow B T k (.slice (some ⟨g, 0, none⟩) m c) n xs) : n ≤ c ∧ c ≤ maxLen ∧ g < W.heap.size := by
  rcases h.2 with ⟨q, _⟩ | ⟨g', cap', cur, e, _, hg, h1, h2, _⟩
  · cases q
  · injection e with e1 e2 e3
    injection e1 with e1
    injection e1 with e1
    subst e1 e3
    exact ⟨h1, h2, (Array.getElem?_eq_some_iff.1 hg).1⟩
theorem strsP_at (ss : List ByteArray) (m : List Value) (i : Nat) (h : i < ss.length) : (strsP ss ++ m)[i]? = some (.string (ss.getD i default)) := by
  rw [List.getElem?_append_left (by simpa [strsP] using h)]
  simp [strsP, List.getD, h]
theorem intsP_at (l : List Int) (m : List Value) (i : Nat) (h : i < l.length) : (intsP l ++ m)[i]? = some (.int .i64 (l.getD i 0)) := by
  rw [List.getElem?_append_left (by simpa [intsP] using h)]
  simp [intsP, List.getD, h]
theorem sgsP_at (l : List Sg) : ∀ i, i < l.length → ∀ j, j < 2 → (sgsP l)[i * 2 + j]? = ((l.getD i default).cs)[j]? := by
  induction l with
  | nil => intro i hi; simp at hi
  | cons x r ih =>
    intro i hi j hj
    have e : sgsP (x :: r) = x.cs ++ sgsP r := rfl
    have le : x.cs.length = 2 := rfl
    rw [e]
    match i with
    | 0 => rw [List.getElem?_append_left (by omega)]; simp
    | i + 1 =>
      rw [List.getElem?_append_right (by omega), le, show (i + 1) * 2 + j - 2 = i * 2 + j by omega, ih i (by simpa using hi) j hj]
      simp
theorem mkw_hd {W : World} {o a : Option Addr} {c n : Nat} {T : TypeId} {k : Nat} {xs : List Value} (h : MkW W o a c n T k xs) : Hd a n c := by
  rcases h with ⟨_, rfl, rfl, rfl⟩ | ⟨_, g, B, rfl, h⟩
  · exact ⟨fun _ => ⟨rfl, rfl⟩, Nat.le_refl _, by unfold maxLen; omega⟩
  · have := own_capP h
    exact ⟨(fun e => by cases e), by omega, this.2.1⟩
theorem mkw_sr {W : World} {o a : Option Addr} {c : Nat} {ss : List ByteArray} {m : List Value} (h : MkW W o a c ss.length 9 1 (strsP ss ++ m)) (h1 : ss.length ≤ 8796093021952) (h2 : ∀ s ∈ ss, s.size ≤ 140737488351232) : SR W a ss.length c ss := by
  refine ⟨mkw_hd h, rfl, h1, h2, ?_⟩
  rcases h with ⟨_, _, _, e⟩ | ⟨_, g, B, rfl, h⟩
  · exact .inl e
  · refine .inr ⟨g, 0, rfl, (own_capP h).2.2, fun i hi j hj => ?_⟩
    obtain rfl : j = 0 := by omega
    have := own_cellsP h i _ (strsP_at ss m i hi)
    simpa using this
theorem mkw_nr {W : World} {o a : Option Addr} {c : Nat} {l : List Int} {m : List Value} (h : MkW W o a c l.length 3 1 (intsP l ++ m)) (h1 : l.length ≤ 17592186043904) (h2 : ∀ i ∈ l, i64 i) : NR W a l.length c l := by
  refine ⟨mkw_hd h, rfl, h1, h2, ?_⟩
  rcases h with ⟨_, _, _, e⟩ | ⟨_, g, B, rfl, h⟩
  · exact .inl e
  · refine .inr ⟨g, 0, rfl, (own_capP h).2.2, fun i hi j hj => ?_⟩
    obtain rfl : j = 0 := by omega
    have := own_cellsP h i _ (intsP_at l m i hi)
    simpa using this
theorem mkw_ir {W : World} {o a : Option Addr} {c : Nat} {l : List In} {m : List Value} (h : MkW W o a c l.length 68 3 (icsP l ++ m)) (h1 : l.length ≤ 5864062014634) (h2 : ∀ i ∈ l, i64 i.o ∧ i64 i.a ∧ i64 i.b) : IR W a l.length c l := by
  refine ⟨mkw_hd h, rfl, h1, h2, ?_⟩
  rcases h with ⟨_, _, _, e⟩ | ⟨_, g, B, rfl, h⟩
  · exact .inl e
  · refine .inr ⟨g, 0, rfl, (own_capP h).2.2, fun i hi j hj => ?_⟩
    have e : (icsP l ++ m)[i * 3 + j]? = some ((icell (l.getD i default)).getD j default) := by
      rw [List.getElem?_append_left (by rw [icsP_len]; omega), icsP_at l i hi j hj]
      have : j < (icell (l.getD i default)).length := hj
      generalize icell (l.getD i default) = z at *
      simp [List.getD, this]
    have := own_cellsP h (i * 3 + j) _ e
    rw [Nat.zero_add]
    exact this
theorem key_days {p q : Pg} (h : q.key = p.key) (i : Nat) : (q.days.getD i default).key = (p.days.getD i default).key := keys_at (key_of h).2.2.2.2.2.2.2 i
/-- A copy is a program. -/
theorem OwnE.pv {w W : World} {p q : Pg} (hp : PV w p) (h : OwnE W p q) : PV W q := by
  obtain ⟨k0, k1, k2, k3, k4, k5, k6, k7⟩ := key_of h.key
  have kl : q.days.length = p.days.length := by have := congrArg List.length k7; simpa using this
  refine ⟨mkw_sr h.mn (by rw [k0]; exact hp.names.2.2.1) (by rw [k0]; exact hp.names.2.2.2.1), mkw_sr h.mu (by rw [k1]; exact hp.curs.2.2.1) (by rw [k1]; exact hp.curs.2.2.2.1), mkw_nr h.mp (by rw [k2]; exact hp.pool.2.2.1) (by rw [k2]; exact hp.pool.2.2.2.1), by rw [k3]; exact hp.hor, by rw [k4]; exact hp.cells, by rw [k5]; exact hp.slots, by rw [k6]; exact hp.stack, ?_⟩
  have GVs : ∀ i, i < q.days.length → GV W (q.days.getD i default) := fun i hi => by
    have hg := hp.days.2.2.2.1 _ (sg_mem (i := i) (by omega))
    have e := key_days h.key i
    unfold Sg.key at e
    injection e with e1 e2
    refine ⟨by rw [e1]; exact hg.1, mkw_ir (h.mc i hi) (by rw [e2]; exact hg.2.2.2.1) (by rw [e2]; exact hg.2.2.2.2.1)⟩
  have GA : ∀ s ∈ q.days, GV W s := fun s hs => by
    obtain ⟨i, hi, rfl⟩ := List.getElem_of_mem hs
    have := GVs i hi
    simpa [List.getD, hi] using this
  have bd := hp.days.2.2.1
  rcases h.md with ⟨e1, e2, e3⟩ | ⟨g, B, e1, e2⟩
  · refine ⟨?_, rfl, by rw [e3]; simp, GA, .inl (by rw [e3]; rfl)⟩
    rw [e1, e2, e3]
    exact ⟨fun _ => ⟨rfl, rfl⟩, Nat.le_refl _, by unfold maxLen; omega⟩
  · have hc := own_capP e2
    rw [e1]
    refine ⟨⟨(fun e => by cases e), by omega, hc.2.1⟩, rfl, by omega, GA, .inr ⟨g, 0, rfl, hc.2.2, fun i hi j hj => ?_⟩⟩
    have e : (sgsP q.days)[i * 2 + j]? = some (((q.days.getD i default).cs).getD j default) := by
      rw [sgsP_at _ i hi j hj]
      have : j < ((q.days.getD i default).cs).length := hj
      generalize (q.days.getD i default).cs = z at *
      simp [List.getD, this]
    have := own_cellsP e2 (i * 2 + j) _ e
    rw [Nat.zero_add]
    exact this
end Go.Proofs.YtpfjnnkjoabgbaaGreatDoor

namespace Go.Proofs.YtpfjnnkjoabgbaaGreatDoor
set_option linter.unusedVariables false
set_option linter.unusedSimpArgs false

/-- What a reader's Uint answers of bytes: number, error, how many bytes. -/
def uN (bs : List Int) (lim : Nat) : Nat × Int × Nat := if (rd bs).2.2 ≠ 0 then (0, (rd bs).2.2, 0) else if lim < (rd bs).1 then (0, 42, 0) else ((rd bs).1, 0, (rd bs).2.1)
/-- One instruction: it, the error, how many bytes, the error's place. -/
def dec1 : List Int → In × Int × Nat × Nat
  | [] => (⟨0, 0, 0⟩, 41, 0, 0)
  | c :: cs =>
    if 29 ≤ c then (⟨0, 0, 0⟩, 111, 0, 0)
    else if onA c.toNat = 0 then (⟨c, 0, 0⟩, 0, 1, 0)
    else if (uN cs (baA c.toNat)).2.1 ≠ 0 then (⟨0, 0, 0⟩, (uN cs (baA c.toNat)).2.1, 0, if (uN cs (baA c.toNat)).2.1 = 41 then 1 + cs.length else 1)
    else if onA c.toNat = 1 then (⟨c, (uN cs (baA c.toNat)).1, 0⟩, 0, 1 + (uN cs (baA c.toNat)).2.2, 0)
    else if (uN (cs.drop (uN cs (baA c.toNat)).2.2) (bbA c.toNat)).2.1 ≠ 0 then (⟨0, 0, 0⟩, (uN (cs.drop (uN cs (baA c.toNat)).2.2) (bbA c.toNat)).2.1, 0, if (uN (cs.drop (uN cs (baA c.toNat)).2.2) (bbA c.toNat)).2.1 = 41 then 1 + cs.length else 1 + (uN cs (baA c.toNat)).2.2)
    else (⟨c, (uN cs (baA c.toNat)).1, (uN (cs.drop (uN cs (baA c.toNat)).2.2) (bbA c.toNat)).1⟩, 0, 1 + (uN cs (baA c.toNat)).2.2 + (uN (cs.drop (uN cs (baA c.toNat)).2.2) (bbA c.toNat)).2.2, 0)
/-- So many instructions: they, the error, its place. -/
def decs : Nat → List Int → List In × Int × Nat
  | 0, bs => if bs.length = 0 then ([], 0, 0) else ([], 46, 0)
  | n + 1, bs =>
    if (dec1 bs).2.1 ≠ 0 then ([], (dec1 bs).2.1, (dec1 bs).2.2.2)
    else if (decs n (bs.drop (dec1 bs).2.2.1)).2.1 ≠ 0 then ([], (decs n (bs.drop (dec1 bs).2.2.1)).2.1, (dec1 bs).2.2.1 + (decs n (bs.drop (dec1 bs).2.2.1)).2.2)
    else ((dec1 bs).1 :: (decs n (bs.drop (dec1 bs).2.2.1)).1, 0, 0)

theorem uN_vl {x lim : Nat} (hx : x ≤ lim) (hl : lim < 18446744073709551616) (t : List Int) : uN (vl x ++ t) lim = (x, 0, (vl x).length) := by
  unfold uN
  rw [rd_vl x (by omega) t]
  simp; omega
theorem uN_ok {bs : List Int} {lim : Nat} (hb : ∀ c ∈ bs, 0 ≤ c ∧ c ≤ 255) (h : (uN bs lim).2.1 = 0) : (uN bs lim).1 ≤ lim ∧ vl (uN bs lim).1 = bs.take (uN bs lim).2.2 ∧ 1 ≤ (uN bs lim).2.2 ∧ (uN bs lim).2.2 ≤ bs.length := by
  unfold uN at h ⊢
  by_cases h0 : (rd bs).2.2 = 0
  · obtain ⟨a1, a2, a3, a4, a5⟩ := rd_only hb h0
    by_cases h1 : lim < (rd bs).1
    · simp [h0, h1] at h
    · simp [h0, h1]
      exact ⟨by omega, a1, by omega, a4⟩
  · simp [h0] at h
theorem uN_codes (bs : List Int) (lim : Nat) : (uN bs lim).2.1 = 0 ∨ (uN bs lim).2.1 = 41 ∨ (uN bs lim).2.1 = 42 := by
  unfold uN
  have := rdf_codes bs 0
  by_cases h0 : (rd bs).2.2 = 0
  · by_cases h1 : lim < (rd bs).1 <;> simp [h0, h1]
  · simp [h0]
    have e : rdf 0 bs = rd bs := rfl
    rw [e] at this
    omega
theorem uN_err {bs : List Int} {lim : Nat} (h : (uN bs lim).2.1 ≠ 0) : (uN bs lim).1 = 0 ∧ (uN bs lim).2.2 = 0 := by
  unfold uN at h ⊢
  by_cases h0 : (rd bs).2.2 = 0
  · by_cases h1 : lim < (rd bs).1
    · simp [h0, h1]
    · simp [h0, h1] at h
  · simp [h0]
/-- A varint cut short. -/
theorem rdf_cut : ∀ (x : Nat) (i m : Nat), m < (vl x).length → i + (vl x).length ≤ 10 → rdf i ((vl x).take m) = (0, 0, 41) := by
  intro x
  induction x using Nat.strongRecOn with
  | _ x ih =>
    intro i m hm hi
    by_cases h : x < 128
    · rw [vl_one h] at hm ⊢
      simp at hm
      subst hm
      exact rdf_nil (by rw [vl_one h] at hi; simp at hi; omega)
    · rw [vl_more (by omega)] at hm hi ⊢
      simp at hm hi
      match m with
      | 0 => exact rdf_nil (by omega)
      | m + 1 =>
        rw [List.take_succ_cons, rdf, if_neg (by omega), if_pos (by omega), ih (x / 128) (by omega) (i + 1) m (by omega) (by omega)]
        simp
theorem uN_cut {x lim m : Nat} (hx : x < 18446744073709551616) (hm : m < (vl x).length) : uN ((vl x).take m) lim = (0, 41, 0) := by
  have : rd ((vl x).take m) = (0, 0, 41) := rdf_cut x 0 m hm (by have := vl_len10 hx; omega)
  unfold uN
  rw [this]
  simp

theorem enc_pos (i : In) : 1 ≤ i.enc.length := by simp [In.enc]
theorem okP_tab {i : In} (h : i.okP) : ∃ k : Nat, k < 29 ∧ i.o = (k : Int) ∧ i.o.toNat = k ∧ ∃ x y : Nat, i.a = (x : Int) ∧ i.b = (y : Int) ∧ i.a.toNat = x ∧ i.b.toNat = y ∧ x ≤ baA k ∧ y ≤ bbA k := by
  obtain ⟨h1, h2, h3, h4, h5, h6⟩ := h
  exact ⟨i.o.toNat, by omega, by omega, rfl, i.a.toNat, i.b.toNat, by omega, by omega, rfl, rfl, by omega, by omega⟩
theorem enc_byte {i : In} (h : i.okP) : ∀ c ∈ i.enc, 0 ≤ c ∧ c ≤ 255 := by
  obtain ⟨k, hk, e1, e2, x, y, e3, e4, e5, e6, hx, hy⟩ := okP_tab h
  intro c hc
  unfold In.enc at hc
  rcases List.mem_cons.1 hc with hc | hc
  · omega
  · rcases List.mem_append.1 hc with hc | hc
    · split at hc
      · exact vl_byte _ c hc
      · simp at hc
    · split at hc
      · exact vl_byte _ c hc
      · simp at hc
theorem encs_byte {l : List In} (h : ∀ i ∈ l, i.okP) : ∀ c ∈ encs l, 0 ≤ c ∧ c ≤ 255 := by
  intro c hc
  obtain ⟨i, hi, hc⟩ := List.mem_flatMap.1 hc
  exact enc_byte (h i hi) c hc
theorem vl_short {x : Nat} (h : x ≤ 262143) : (vl x).length ≤ 3 := vl_len 3 x (by omega) (by omega)
theorem vl_short2 {x : Nat} (h : x ≤ 3660) : (vl x).length ≤ 2 := vl_len 2 x (by omega) (by omega)
theorem two_ops : ∀ k, k < 29 → 2 ≤ onA k → baA k ≤ 127 := all29 (by decide)
theorem enc_len {i : In} (h : i.okP) : i.enc.length ≤ 4 := by
  obtain ⟨k, hk, e1, e2, x, y, e3, e4, e5, e6, hx, hy⟩ := okP_tab h
  obtain ⟨t1, t2, t3, _⟩ := tab_facts k hk
  unfold In.enc
  rw [e2, e5, e6]
  have a := vl_short (x := x) (by omega)
  have b := vl_short2 (x := y) (by omega)
  by_cases h2 : 2 ≤ onA k
  · have c := vl_len 1 x (by have := two_ops k hk h2; omega) (by omega)
    simp [h2, show 1 ≤ onA k by omega]; omega
  · by_cases h1 : 1 ≤ onA k
    · simp [h2, h1]; omega
    · simp [h2, h1]
theorem encs_len {l : List In} (h : ∀ i ∈ l, i.okP) : (encs l).length ≤ 4 * l.length ∧ l.length ≤ (encs l).length := by
  induction l with
  | nil => simp [encs]
  | cons i l ih =>
    have a := ih (fun j hj => h j (by simp [hj]))
    have b := enc_len (h i (by simp))
    have c := enc_pos i
    rw [encs_cons]; simp; omega

/-- What was written is read. -/
theorem dec1_enc {i : In} (h : i.okP) (t : List Int) : dec1 (i.enc ++ t) = (i, 0, i.enc.length, 0) := by
  obtain ⟨k, hk, e1, e2, x, y, e3, e4, e5, e6, hx, hy⟩ := okP_tab h
  obtain ⟨t1, t2, t3, _, _, t6, t7⟩ := tab_facts k hk
  obtain ⟨o, a, b⟩ := i
  simp only at e1 e2 e3 e4 e5 e6
  subst e1 e3 e4
  unfold In.enc
  simp only [e2, e5, e6, List.cons_append]
  rw [dec1, if_neg (by omega), e2]
  by_cases h0 : onA k = 0
  · have b1 := t6 h0
    have b2 := t7 (by omega)
    rw [if_pos h0]
    have hx0 : x = 0 := by omega
    have hy0 : y = 0 := by omega
    subst hx0 hy0
    simp [h0]
  · have h01 : 1 ≤ onA k := by omega
    simp only [h01, if_true]
    rw [if_neg h0]
    by_cases h1 : onA k = 1
    · have b2 := t7 (by omega)
      have hy0 : y = 0 := by omega
      subst hy0
      rw [if_neg (show ¬ 2 ≤ onA k by omega), List.append_nil, uN_vl hx (by omega) t, if_neg (by simp), if_pos h1]
      simp; omega
    · have h2 : 2 ≤ onA k := by omega
      rw [if_pos h2, List.append_assoc, uN_vl hx (by omega) (vl y ++ t), if_neg (by simp), if_neg h1]
      have ed : (vl x ++ (vl y ++ t)).drop (vl x).length = vl y ++ t := List.drop_left
      simp only
      rw [ed, uN_vl hy (by omega) t, if_neg (by simp)]
      simp; omega
theorem decs_encs {l : List In} (h : ∀ i ∈ l, i.okP) : decs l.length (encs l) = (l, 0, 0) := by
  induction l with
  | nil => simp [decs, encs]
  | cons i l ih =>
    have a := ih (fun j hj => h j (by simp [hj]))
    rw [encs_cons, List.length_cons, decs, dec1_enc (h i (by simp))]
    simp only [ne_eq, not_true_eq_false, if_false]
    rw [List.drop_left, a]
    simp
/-- One fewer. -/
theorem decs_fewer {l : List In} {i : In} (h : ∀ j ∈ l, j.okP) (hi : i.okP) : decs l.length (encs (l ++ [i])) = ([], 46, (encs l).length) := by
  induction l with
  | nil =>
    have := enc_pos i
    have hne : i.enc ≠ [] := by intro h; rw [h] at this; simp at this
    simp [decs, encs, hne]
  | cons j l ih =>
    have a := ih (fun j hj => h j (by simp [hj]))
    rw [List.cons_append, encs_cons, List.length_cons, decs, dec1_enc (h j (by simp))]
    simp only [ne_eq, not_true_eq_false, if_false]
    rw [List.drop_left, a]
    simp [encs_cons]
theorem decs_more {l : List In} (h : ∀ j ∈ l, j.okP) (n : Nat) : decs (l.length + (n + 1)) (encs l) = ([], 41, (encs l).length) := by
  induction l with
  | nil =>
    rw [List.length_nil, Nat.zero_add, decs]
    simp [encs, dec1]
  | cons j l ih =>
    have a := ih (fun j hj => h j (by simp [hj]))
    rw [encs_cons, List.length_cons, show l.length + 1 + (n + 1) = (l.length + (n + 1)) + 1 by omega, decs, dec1_enc (h j (by simp))]
    simp only [ne_eq, not_true_eq_false, if_false]
    rw [List.drop_left, a]
    simp
/-- An instruction cut short. -/
theorem dec1_cut {i : In} (h : i.okP) {m : Nat} (hm : m < i.enc.length) : (dec1 (i.enc.take m)).2.1 = 41 ∧ (dec1 (i.enc.take m)).2.2.2 = m := by
  obtain ⟨k, hk, e1, e2, x, y, e3, e4, e5, e6, hx, hy⟩ := okP_tab h
  obtain ⟨t1, t2, t3, _, _, t6, t7⟩ := tab_facts k hk
  obtain ⟨o, a, b⟩ := i
  simp only at e1 e2 e3 e4 e5 e6
  subst e1 e3 e4
  unfold In.enc at hm ⊢
  simp only [e2, e5, e6] at hm ⊢
  match m with
  | 0 => simp [dec1]
  | m + 1 =>
    rw [List.take_succ_cons, dec1, if_neg (by omega), e2]
    simp only [List.length_cons] at hm
    have hm : m < ((if 1 ≤ onA k then vl x else []) ++ (if 2 ≤ onA k then vl y else [])).length := by omega
    by_cases h0 : onA k = 0
    · simp [h0] at hm
    · rw [if_neg h0]
      rw [if_pos (show 1 ≤ onA k by omega)] at hm ⊢
      by_cases h1 : onA k = 1
      · rw [if_neg (show ¬ 2 ≤ onA k by omega), List.append_nil] at hm ⊢
        rw [uN_cut (by omega) hm]
        simp; omega
      · have h2 : 2 ≤ onA k := by omega
        rw [if_pos h2] at hm ⊢
        rcases Nat.lt_or_ge m (vl x).length with q | q
        · rw [List.take_append_of_le_length (by omega), uN_cut (by omega) q]
          simp; omega
        · have et : (vl x ++ vl y).take m = vl x ++ (vl y).take (m - (vl x).length) := by rw [List.take_append]; simp; rw [List.take_of_length_le (by omega)]
          have hl : m - (vl x).length < (vl y).length := by simp at hm; omega
          rw [et, uN_vl hx (by omega), if_neg (by simp), if_neg h1]
          simp only
          rw [List.drop_left, uN_cut (by omega) hl]
          simp; omega
theorem decs_cut {l : List In} (h : ∀ j ∈ l, j.okP) : ∀ c, c < (encs l).length → decs l.length ((encs l).take c) = ([], 41, c) := by
  induction l with
  | nil => intro c hc; simp [encs] at hc
  | cons i l ih =>
    intro c hc
    have a := ih (fun j hj => h j (by simp [hj]))
    rw [encs_cons] at hc ⊢
    rw [List.length_cons, decs]
    rcases Nat.lt_or_ge c i.enc.length with q | q
    · rw [List.take_append_of_le_length (by omega)]
      obtain ⟨d1, d2⟩ := dec1_cut (h i (by simp)) q
      rw [d1, d2]; simp
    · have et : (i.enc ++ encs l).take c = i.enc ++ (encs l).take (c - i.enc.length) := by rw [List.take_append]; simp; rw [List.take_of_length_le (by omega)]
      rw [et, dec1_enc (h i (by simp))]
      simp only [ne_eq, not_true_eq_false, if_false]
      rw [List.drop_left, a _ (by simp at hc; omega)]
      simp; omega
/-- What is read was written so. -/
theorem dec1_ok {bs : List Int} (hb : ∀ c ∈ bs, 0 ≤ c ∧ c ≤ 255) (h : (dec1 bs).2.1 = 0) : (dec1 bs).1.okP ∧ (dec1 bs).1.enc = bs.take (dec1 bs).2.2.1 ∧ 1 ≤ (dec1 bs).2.2.1 ∧ (dec1 bs).2.2.1 ≤ bs.length := by
  match bs with
  | [] => simp [dec1] at h
  | c :: cs =>
    have hc := hb c (by simp)
    have hcs : ∀ d ∈ cs, 0 ≤ d ∧ d ≤ 255 := fun d hd => hb d (by simp [hd])
    rw [dec1] at h ⊢
    by_cases h29 : 29 ≤ c
    · rw [if_pos h29] at h; simp at h
    · rw [if_neg h29] at h ⊢
      obtain ⟨k, hk⟩ : ∃ k : Nat, c.toNat = k := ⟨_, rfl⟩
      have hck : c = (k : Int) := by omega
      have k29 : k < 29 := by omega
      obtain ⟨t1, t2, t3, _, _, t6, t7⟩ := tab_facts k k29
      rw [hk] at h ⊢
      by_cases h0 : onA k = 0
      · rw [if_pos h0]
        refine ⟨⟨hc.1, by simp; omega, by simp, by simp, by simp, by simp⟩, ?_, by simp, by simp⟩
        simp [In.enc, hk, h0]
      · rw [if_neg h0] at h ⊢
        by_cases hu : (uN cs (baA k)).2.1 = 0
        · obtain ⟨a1, a2, a3, a4⟩ := uN_ok hcs hu
          rw [if_neg (by simp [hu])] at h ⊢
          by_cases h1 : onA k = 1
          · rw [if_pos h1]
            refine ⟨⟨hc.1, by simp; omega, by simp, by simp [hk]; omega, by simp, by simp⟩, ?_, by simp, by simp; omega⟩
            simp only [In.enc, hk, h1]
            simp only [Nat.le_refl, if_true, show ¬ (2 : Nat) ≤ 1 by omega, if_false, List.append_nil, Int.toNat_natCast, a2]
            rw [Nat.add_comm 1, List.take_succ_cons]
          · rw [if_neg h1] at h ⊢
            by_cases hv : (uN (cs.drop (uN cs (baA k)).2.2) (bbA k)).2.1 = 0
            · obtain ⟨b1, b2, b3, b4⟩ := uN_ok (fun d hd => hcs d (List.mem_of_mem_drop hd)) hv
              rw [if_neg (by simp [hv])]
              rw [List.length_drop] at b4
              refine ⟨⟨hc.1, by simp; omega, by simp, by simp [hk]; omega, by simp, by simp [hk]; omega⟩, ?_, by simp; omega, by simp; omega⟩
              simp only [In.enc, hk]
              simp only [show 1 ≤ onA k by omega, show 2 ≤ onA k by omega, if_true, Int.toNat_natCast, a2, b2]
              rw [show 1 + (uN cs (baA k)).2.2 + (uN (cs.drop (uN cs (baA k)).2.2) (bbA k)).2.2 = ((uN cs (baA k)).2.2 + (uN (cs.drop (uN cs (baA k)).2.2) (bbA k)).2.2) + 1 by omega, List.take_succ_cons, List.take_add]
            · rw [if_pos hv] at h
              exact absurd h hv
        · rw [if_pos hu] at h
          exact absurd h hu
theorem dec1_place {bs : List Int} (hb : ∀ c ∈ bs, 0 ≤ c ∧ c ≤ 255) : (dec1 bs).2.2.2 ≤ bs.length := by
  match bs with
  | [] => simp [dec1]
  | c :: cs =>
    have hcs : ∀ d ∈ cs, 0 ≤ d ∧ d ≤ 255 := fun d hd => hb d (by simp [hd])
    rw [dec1]
    split
    · simp
    · split
      · simp
      · split
        · simp; split <;> omega
        · rename_i hu
          obtain ⟨a1, a2, a3, a4⟩ := uN_ok hcs (by simpa using hu)
          split
          · simp
          · split
            · simp; split <;> omega
            · simp
theorem decs_ok : ∀ (n : Nat) (bs : List Int), (∀ c ∈ bs, 0 ≤ c ∧ c ≤ 255) → (decs n bs).2.1 = 0 → encs (decs n bs).1 = bs ∧ (decs n bs).1.length = n ∧ (∀ i ∈ (decs n bs).1, i.okP) ∧ (decs n bs).2.2 = 0
  | 0, bs, hb, h => by
    rw [decs] at h ⊢
    by_cases h0 : bs.length = 0
    · have : bs = [] := List.length_eq_zero_iff.1 h0
      subst this
      simp [encs]
    · rw [if_neg h0] at h; simp at h
  | n + 1, bs, hb, h => by
    rw [decs] at h ⊢
    by_cases h1 : (dec1 bs).2.1 = 0
    · rw [if_neg (by simp [h1])] at h ⊢
      by_cases h2 : (decs n (bs.drop (dec1 bs).2.2.1)).2.1 = 0
      · rw [if_neg (by simp [h2])]
        obtain ⟨a1, a2, a3, a4⟩ := dec1_ok hb h1
        obtain ⟨b1, b2, b3, b4⟩ := decs_ok n _ (fun c hc => hb c (List.mem_of_mem_drop hc)) h2
        refine ⟨?_, by simp [b2], ?_, rfl⟩
        · rw [encs_cons, a2, b1, List.take_append_drop]
        · intro i hi
          rcases List.mem_cons.1 hi with rfl | hi
          · exact a1
          · exact b3 i hi
      · rw [if_pos h2] at h; exact absurd h h2
    · rw [if_pos h1] at h; exact absurd h h1
theorem decs_err : ∀ (n : Nat) (bs : List Int), (∀ c ∈ bs, 0 ≤ c ∧ c ≤ 255) → (decs n bs).2.1 ≠ 0 → (decs n bs).1 = [] ∧ (decs n bs).2.2 ≤ bs.length
  | 0, bs, hb, h => by
    rw [decs] at h ⊢
    split <;> simp
  | n + 1, bs, hb, h => by
    rw [decs] at h ⊢
    by_cases h1 : (dec1 bs).2.1 = 0
    · rw [if_neg (by simp [h1])] at h ⊢
      by_cases h2 : (decs n (bs.drop (dec1 bs).2.2.1)).2.1 = 0
      · rw [if_neg (by simp [h2])] at h; simp at h
      · rw [if_pos h2]
        obtain ⟨a1, a2, a3, a4⟩ := dec1_ok hb h1
        obtain ⟨b1, b2⟩ := decs_err n _ (fun c hc => hb c (List.mem_of_mem_drop hc)) h2
        refine ⟨rfl, ?_⟩
        simp at b2 ⊢; omega
    · rw [if_pos h1]
      exact ⟨rfl, dec1_place hb⟩
/-- How a loop over the instructions goes: what was read so far, up to the place k. -/
def DJ (bs : List Int) (n : Nat) (acc : List In) (k : Nat) : Prop :=
  acc.length ≤ n ∧ k ≤ bs.length ∧ ((decs (n - acc.length) (bs.drop k)).2.1 ≠ 0 → decs n bs = ([], (decs (n - acc.length) (bs.drop k)).2.1, k + (decs (n - acc.length) (bs.drop k)).2.2)) ∧ ((decs (n - acc.length) (bs.drop k)).2.1 = 0 → decs n bs = (acc ++ (decs (n - acc.length) (bs.drop k)).1, 0, 0))
theorem DJ.start (bs : List Int) (hb : ∀ c ∈ bs, 0 ≤ c ∧ c ≤ 255) (n : Nat) : DJ bs n [] 0 := by
  refine ⟨Nat.zero_le _, Nat.zero_le _, fun h => ?_, fun h => ?_⟩
  · simp only [List.drop_zero, List.length_nil, Nat.sub_zero, Nat.zero_add] at h ⊢
    obtain ⟨a, b⟩ := decs_err n bs hb h
    generalize decs n bs = r at *
    obtain ⟨r1, r2, r3⟩ := r
    simp at a ⊢; exact a
  · simp only [List.drop_zero, List.length_nil, Nat.sub_zero, List.nil_append] at h ⊢
    obtain ⟨a, b, c, d⟩ := decs_ok n bs hb h
    generalize decs n bs = r at *
    obtain ⟨r1, r2, r3⟩ := r
    simp at h d ⊢; exact ⟨h, d⟩
theorem DJ.step {bs : List Int} (hb : ∀ c ∈ bs, 0 ≤ c ∧ c ≤ 255) {n : Nat} {acc : List In} {k : Nat} (h : DJ bs n acc k) (hn : acc.length < n) (h1 : (dec1 (bs.drop k)).2.1 = 0) : DJ bs n (acc ++ [(dec1 (bs.drop k)).1]) (k + (dec1 (bs.drop k)).2.2.1) := by
  obtain ⟨g1, g2, g3, g4⟩ := h
  obtain ⟨a1, a2, a3, a4⟩ := dec1_ok (fun c hc => hb c (List.mem_of_mem_drop hc)) h1
  rw [List.length_drop] at a4
  have en : n - acc.length = (n - (acc ++ [(dec1 (bs.drop k)).1]).length) + 1 := by simp; omega
  rw [en, decs] at g3 g4
  rw [List.drop_drop] at g3 g4
  refine ⟨by simp; omega, by omega, fun e => ?_, fun e => ?_⟩
  · rw [if_neg (by simp [h1]), if_pos e] at g3
    rw [g3 e]; simp; omega
  · rw [if_neg (fun h => h h1), if_neg (fun h => h e)] at g4
    rw [g4 rfl]; simp
theorem DJ.stop {bs : List Int} {n : Nat} {acc : List In} {k : Nat} (h : DJ bs n acc k) (hn : acc.length < n) (h1 : (dec1 (bs.drop k)).2.1 ≠ 0) : decs n bs = ([], (dec1 (bs.drop k)).2.1, k + (dec1 (bs.drop k)).2.2.2) := by
  obtain ⟨g1, g2, g3, g4⟩ := h
  have en : n - acc.length = (n - acc.length - 1) + 1 := by omega
  rw [en, decs, if_pos h1] at g3
  exact g3 h1
theorem DJ.done {bs : List Int} {n : Nat} {acc : List In} {k : Nat} (h : DJ bs n acc k) (hn : acc.length = n) (hk : k = bs.length) : decs n bs = (acc, 0, 0) := by
  obtain ⟨g1, g2, g3, g4⟩ := h
  rw [show n - acc.length = 0 by omega, decs, if_pos (by simp; omega)] at g4
  simpa using g4 rfl
theorem DJ.extra {bs : List Int} {n : Nat} {acc : List In} {k : Nat} (h : DJ bs n acc k) (hn : acc.length = n) (hk : k < bs.length) : decs n bs = ([], 46, k) := by
  obtain ⟨g1, g2, g3, g4⟩ := h
  rw [show n - acc.length = 0 by omega, decs, if_neg (by simp; omega)] at g3
  simpa using g3 (by simp)
end Go.Proofs.YtpfjnnkjoabgbaaGreatDoor

namespace Go.Proofs.YtpfjnnkjoabgbaaGreatDoor
open Go.RowKit
set_option linter.unusedVariables false
set_option linter.unusedSimpArgs false

/-- The table, where the world holds it. -/
def Rws (w : World) : Prop := 1 < w.heap.size ∧ ∀ k : Nat, k < 29 → w.cell? ⟨1, k * 6, none⟩ = some (.string (nmA k)) ∧ w.cell? ⟨1, k * 6 + 1, none⟩ = some (.int .u8 (onA k : Int)) ∧ w.cell? ⟨1, k * 6 + 2, none⟩ = some (.int .u8 (tkA k : Int)) ∧ w.cell? ⟨1, k * 6 + 3, none⟩ = some (.int .u8 (ptA k : Int)) ∧ w.cell? ⟨1, k * 6 + 4, none⟩ = some (.int .i32 (baA k : Int)) ∧ w.cell? ⟨1, k * 6 + 5, none⟩ = some (.int .i32 (bbA k : Int))
theorem Rws.later {w w' : World} {n : Nat} (h : Rws w) (b : Below n w w') (hn : w.heap.size ≤ n) : Rws w' := by
  refine ⟨Nat.lt_of_lt_of_le h.1 b.size, fun k hk => ?_⟩
  have g : ∀ o, w'.cell? ⟨1, o, none⟩ = w.cell? ⟨1, o, none⟩ := fun o => b.cell (p := ⟨1, o, none⟩) (Nat.lt_of_lt_of_le h.1 hn)
  rw [g, g, g, g, g, g]
  exact h.2 k hk
theorem Rws.alloc {w : World} (h : Rws w) (c : Obj) : Rws (w.alloc c) := h.later ((Below.refl _ _).alloc (Nat.le_refl _) _) (Nat.le_refl _)
theorem Rws.below {w w' : World} (h : Rws w) (b : Below w.heap.size w w') : Rws w' := h.later b (Nat.le_refl _)

theorem heap_new (w : World) (o : Obj) : (w.alloc o).heap[w.heap.size]? = some o := by show (w.heap.push o)[w.heap.size]? = _; simp
theorem box_all6 {w : World} {x : Nat} {a b c d e f : Value} {t : TypeId} (h : w.heap[x]? = some (.cells #[a, b, c, d, e, f] t)) : w.cell? ⟨x, 0, none⟩ = some a ∧ w.cell? ⟨x, 1, none⟩ = some b ∧ w.cell? ⟨x, 2, none⟩ = some c ∧ w.cell? ⟨x, 3, none⟩ = some d ∧ w.cell? ⟨x, 4, none⟩ = some e ∧ w.cell? ⟨x, 5, none⟩ = some f := by
  refine ⟨?_, ?_, ?_, ?_, ?_, ?_⟩ <;> simp [World.cell?, h]
theorem box_set6 {w : World} {x : Nat} {a b c d e f a' b' c' d' e' f' : Value} {t : TypeId} (h : w.heap[x]? = some (.cells #[a, b, c, d, e, f] t)) : ((((((w.setCell ⟨x, 0, none⟩ a').setCell ⟨x, 1, none⟩ b').setCell ⟨x, 2, none⟩ c').setCell ⟨x, 3, none⟩ d').setCell ⟨x, 4, none⟩ e').setCell ⟨x, 5, none⟩ f').heap[x]? = some (.cells #[a', b', c', d', e', f'] t) := by
  have h0 : (w.setCell ⟨x, 0, none⟩ a').heap[x]? = some (.cells #[a', b, c, d, e, f] t) := Joins.block_setCell (i := 0) h a'
  generalize w.setCell ⟨x, 0, none⟩ a' = w at h0 ⊢
  have h1 : (w.setCell ⟨x, 1, none⟩ b').heap[x]? = some (.cells #[a', b', c, d, e, f] t) := Joins.block_setCell (i := 1) h0 b'
  generalize w.setCell ⟨x, 1, none⟩ b' = w at h1 ⊢
  have h2 : (w.setCell ⟨x, 2, none⟩ c').heap[x]? = some (.cells #[a', b', c', d, e, f] t) := Joins.block_setCell (i := 2) h1 c'
  generalize w.setCell ⟨x, 2, none⟩ c' = w at h2 ⊢
  have h3 : (w.setCell ⟨x, 3, none⟩ d').heap[x]? = some (.cells #[a', b', c', d', e, f] t) := Joins.block_setCell (i := 3) h2 d'
  generalize w.setCell ⟨x, 3, none⟩ d' = w at h3 ⊢
  have h4 : (w.setCell ⟨x, 4, none⟩ e').heap[x]? = some (.cells #[a', b', c', d', e', f] t) := Joins.block_setCell (i := 4) h3 e'
  generalize w.setCell ⟨x, 4, none⟩ e' = w at h4 ⊢
  have h5 : (w.setCell ⟨x, 5, none⟩ f').heap[x]? = some (.cells #[a', b', c', d', e', f'] t) := Joins.block_setCell (i := 5) h4 f'
  exact h5
theorem below6 {B : Nat} {w0 w : World} {g : Nat} (h : Below B w0 w) (hg : B ≤ g) (a0 a1 a2 a3 a4 a5 : Value) :
    Below B w0 ((((((w.setCell ⟨g, 0, none⟩ a0).setCell ⟨g, 1, none⟩ a1).setCell ⟨g, 2, none⟩ a2).setCell ⟨g, 3, none⟩ a3).setCell ⟨g, 4, none⟩ a4).setCell ⟨g, 5, none⟩ a5) :=
  ((((((h.setCell (p := ⟨g, 0, none⟩) hg _).setCell (p := ⟨g, 1, none⟩) hg _).setCell (p := ⟨g, 2, none⟩) hg _).setCell (p := ⟨g, 3, none⟩) hg _).setCell (p := ⟨g, 4, none⟩) hg _).setCell (p := ⟨g, 5, none⟩) hg _)

theorem below_dr2 {B : Nat} {a w : World} (h : Below B a w) : Below B a w.drew := ⟨h.os, h.tape, h.output, h.size, h.block⟩
/-- A row, as a value. -/
abbrev rowV (n : ByteArray) (o t p a b : Int) : Value := .agg #[.string n, .int .u8 o, .int .u8 t, .int .u8 p, .int .i32 a, .int .i32 b]
def zr : Obj := .cells #[.string ⟨#[]⟩, .int .u8 0, .int .u8 0, .int .u8 0, .int .i32 0, .int .i32 0] 174
set_option maxHeartbeats 1000000 in
theorem rowOf_in (k : Nat) (hk : k < 29) (w : World) (h : Rws w) :
    Calls Tryz.prog 134 #[.int .i64 (k : Int)] w fun e w' => e = .returned (.tuple #[rowV (nmA k) (onA k : Int) (tkA k : Int) (ptA k : Int) (baA k : Int) (bbA k : Int), .int .i64 0]) ∧ Below w.heap.size w w' := by
  obtain ⟨c0, c1, c2, c3, c4, c5⟩ := (h.alloc zr).2 k hk
  unfold zr at c0 c1 c2 c3 c4 c5
  generalize nmA k = n at *
  generalize ((onA k : Nat) : Int) = o at *
  generalize ((tkA k : Nat) : Int) = t at *
  generalize ((ptA k : Nat) : Int) = p at *
  generalize ((baA k : Nat) : Int) = a at *
  generalize ((bbA k : Nat) : Int) = b at *
  clear h
  have k0 : ¬ (k : Int) < 0 := by omega
  have k1 : decide (29 ≤ k) = false := by simp; omega
  have k2 : decide ((29 : Int) ≤ (k : Int)) = false := by simp; omega
  go_enter Tryz.func134, Tryz.ntmps134
  go_wp2
  obtain ⟨r0, r1, r2, r3, r4, r5⟩ := box_all6 (heap_new w (.cells #[.string n, .int .u8 o, .int .u8 t, .int .u8 p, .int .i32 a, .int .i32 b] 174))
  exact bodyPost_ret (v := .tuple #[rowV n o t p a b, .int .i64 0]) (by simp [results, Tryz.results134, go_sem, r0, r1, r2, r3, r4, r5]) rfl ⟨rfl, (Below.refl w.heap.size w).alloc (Nat.le_refl _) _⟩
set_option maxHeartbeats 1000000 in
theorem rowOf_out (op : Int) (w : World) (h : op < 0 ∨ 29 ≤ op) :
    Calls Tryz.prog 134 #[.int .i64 op] w fun e w' => e = .returned (.tuple #[rowV ⟨#[]⟩ 0 0 0 0 0, .int .i64 111]) ∧ Below w.heap.size w w' := by
  have R := Lib.hid (box_all6 (heap_new w (.cells #[.string ⟨#[]⟩, .int .u8 0, .int .u8 0, .int .u8 0, .int .i32 0, .int .i32 0] 174)))
  by_cases k0 : op < 0
  · clear h
    go_enter Tryz.func134, Tryz.ntmps134
    go_wp2
    obtain ⟨r0, r1, r2, r3, r4, r5⟩ := R.out
    exact bodyPost_ret (v := .tuple #[rowV ⟨#[]⟩ 0 0 0 0 0, .int .i64 111]) (by simp [results, Tryz.results134, go_sem, r0, r1, r2, r3, r4, r5]) rfl ⟨rfl, (Below.refl w.heap.size w).alloc (Nat.le_refl _) _⟩
  · have k1 : (29 : Int) ≤ op := by omega
    clear h
    go_enter Tryz.func134, Tryz.ntmps134
    go_wp2
    obtain ⟨r0, r1, r2, r3, r4, r5⟩ := R.out
    exact bodyPost_ret (v := .tuple #[rowV ⟨#[]⟩ 0 0 0 0 0, .int .i64 111]) (by simp [results, Tryz.results134, go_sem, r0, r1, r2, r3, r4, r5]) rfl ⟨rfl, (Below.refl w.heap.size w).alloc (Nat.le_refl _) _⟩

/-- What the table says of a number. -/
structure RowE (op : Int) (n : ByteArray) (o t p a b er : Int) : Prop where
  say : (∃ k : Nat, k < 29 ∧ op = (k : Int) ∧ n = nmA k ∧ o = (onA k : Int) ∧ t = (tkA k : Int) ∧ p = (ptA k : Int) ∧ a = (baA k : Int) ∧ b = (bbA k : Int) ∧ er = 0) ∨ ((op < 0 ∨ 29 ≤ op) ∧ n = ⟨#[]⟩ ∧ o = 0 ∧ t = 0 ∧ p = 0 ∧ a = 0 ∧ b = 0 ∧ er = 111)
theorem row_ex (op : Int) : ∃ n o t p a b er, RowE op n o t p a b er := by
  by_cases h : op < 0 ∨ 29 ≤ op
  · exact ⟨_, _, _, _, _, _, _, ⟨.inr ⟨h, rfl, rfl, rfl, rfl, rfl, rfl, rfl⟩⟩⟩
  · exact ⟨_, _, _, _, _, _, _, ⟨.inl ⟨op.toNat, by omega, by omega, rfl, rfl, rfl, rfl, rfl, rfl, rfl⟩⟩⟩
theorem RowE.small {op : Int} {n : ByteArray} {o t p a b er : Int} (h : RowE op n o t p a b er) : (0 ≤ o ∧ o ≤ 2) ∧ (0 ≤ t ∧ t ≤ 3) ∧ (0 ≤ p ∧ p ≤ 1) ∧ (0 ≤ a ∧ a ≤ 262143) ∧ (0 ≤ b ∧ b ≤ 3660) ∧ (er = 0 ∨ er = 111) := by
  rcases h.say with ⟨k, hk, rfl, rfl, rfl, rfl, rfl, rfl, rfl, rfl⟩ | ⟨_, rfl, rfl, rfl, rfl, rfl, rfl, rfl⟩
  · obtain ⟨t1, t2, t3, t4, t5, _⟩ := tab_facts k hk
    omega
  · omega
theorem rowOf_any {op : Int} {n : ByteArray} {o t p a b er : Int} (h : RowE op n o t p a b er) (w : World) (hR : Rws w) :
    Calls Tryz.prog 134 #[.int .i64 op] w fun e w' => e = .returned (.tuple #[rowV n o t p a b, .int .i64 er]) ∧ Below w.heap.size w w' := by
  rcases h.say with ⟨k, hk, rfl, rfl, rfl, rfl, rfl, rfl, rfl, rfl⟩ | ⟨hr, rfl, rfl, rfl, rfl, rfl, rfl, rfl⟩
  · exact rowOf_in k hk w hR
  · exact rowOf_out op w hr
theorem wrap_id {x : Int} (h : -1000000 ≤ x ∧ x ≤ 1000000) : IntKind.i64.wrap x = x := by
  simp [IntKind.wrap, IntKind.bits, IntKind.signed]; omega
theorem effect_any {op : Int} {n : ByteArray} {o t p a b er : Int} (h : RowE op n o t p a b er) (w : World) (hR : Rws w) :
    Calls Tryz.prog 99 #[.int .i64 op] w fun e w' => e = .returned (.tuple #[.int .i64 t, .int .i64 p, .int .i64 er]) ∧ Below w.heap.size w w' := by
  have K := Lib.hid (rowOf_any h w hR)
  have q1 : IntKind.i64.wrap t = t := wrap_id (by have := h.small; omega)
  have q2 : IntKind.i64.wrap p = p := wrap_id (by have := h.small; omega)
  clear h hR
  go_enter Tryz.func99, Tryz.ntmps99
  go_wp2_with (go_at_call 134; refine K.out.mono ?_; rintro e w1 ⟨rfl, h1⟩; have B1 := Lib.hid h1; clear h1)
  go_region
  all_goals go_wp2
  all_goals
    go_ret3
    exact ⟨rfl, below_dr2 (B1.out.alloc B1.out.size _)⟩
end Go.Proofs.YtpfjnnkjoabgbaaGreatDoor

namespace Go.Proofs.YtpfjnnkjoabgbaaGreatDoor
open Go.RowKit
set_option linter.unusedVariables false
set_option linter.unusedSimpArgs false

theorem BkP.lat {W W' : World} {b : Nat} {cs : Array Value} {t : TypeId} (h : BkP W b cs t) (g : Below W.heap.size W W') : BkP W' b cs t := h.grown (gr_below g none) (by simp)
def ptN (b : Option Nat) : Value := .pointer (b.map (fun x => ⟨x, 0, none⟩))
/-- The blocks of a stack's cells, by what lies on the stack. -/
abbrev Tg := List Nat → Option Nat
def blwN (G : Tg) (s : List Nat) : Option Nat := match s with | [] => none | _ :: t => G t
def cellA (G : Tg) (s : List Nat) : Array Value := #[.int .u8 ((s.headD 0 : Nat) : Int), ptN (blwN G s), .pointer none, ptN (G (1 :: s)), ptN (G (2 :: s))]
structure Tri (W : World) (B : Nat) (G : Tg) : Prop where
  root : ∃ r, G [] = some r
  box : ∀ s b, G s = some b → B ≤ b ∧ BkP W b (cellA G s) 123
  inj : ∀ s t b, G s = some b → G t = some b → s = t
  pre : ∀ x s b, G (x :: s) = some b → ∃ c, G s = some c
/-- A sheet: 32 words. -/
def shA (sh : Nat → Nat) : Array Value := ((List.range 32).map (fun k => Value.int .u64 ((sh k : Nat) : Int))).toArray
def bitS (sh : Nat → Nat) (m : Nat) : Nat := if (sh (m / 64 * 2)).testBit (m % 64) then 1 else if (sh (m / 64 * 2 + 1)).testBit (m % 64) then 2 else 0
structure ShR (W : World) (b : Nat) (sh : Nat → Nat) : Prop where
  box : BkP W b (shA sh) 185
  sz : ∀ k, sh k < 18446744073709551616
  ap : ∀ g, g < 16 → ∀ i, i < 64 → ¬ ((sh (g * 2)).testBit i = true ∧ (sh (g * 2 + 1)).testBit i = true)
/-- One of the sixteen parts of the slots. -/
def PaR (W : World) (B : Nat) (p : Option Nat) (f : Nat → Nat) : Prop := (p = none ∧ ∀ m, m < 1024 → f m = 0) ∨ ∃ b sh, p = some b ∧ B ≤ b ∧ ShR W b sh ∧ ∀ m, m < 1024 → f m = bitS sh m
def SlR (W : World) (B : Nat) (ps : Nat → Option Nat) (f : Nat → Nat) : Prop := ∀ j, j < 16 → PaR W B (ps j) (fun m => f (j * 1024 + m))
def stA (tb : Nat) (h : Nat) (ps : Nat → Option Nat) : Array Value := (.pointer (some ⟨tb, 0, none⟩) :: .int .i64 (h : Int) :: (List.range 16).map (fun j => ptN (ps j))).toArray
/-- A state in its block. -/
structure SvR (W : World) (B : Nat) (G : Tg) (x tb : Nat) (ps : Nat → Option Nat) (s : Vs) : Prop where
  top : G s.st = some tb
  box : BkP W x (stA tb s.st.length ps) 101
  slt : SlR W B ps s.sl
  low : B ≤ x
theorem bk_ne {W : World} {a b : Nat} {x y : Array Value} {s t : TypeId} (h : BkP W a x s) (k : BkP W b y t) (n : s ≠ t) : a ≠ b := by
  rintro rfl
  have e := h.symm.trans k
  injection e with e
  injection e with e1 e2
  exact n e2
/-- What changes at one block alone, of one type, leaves all boxes of other types. -/
theorem Tri.other {W W' : World} {B : Nat} {G : Tg} {x : Nat} {y : Array Value} {t : TypeId} (h : Tri W B G) (g : W.grownBy W' (some x)) (hx : BkP W x y t) (ht : t ≠ 123) : Tri W' B G :=
  ⟨h.root, fun s b e => ⟨(h.box s b e).1, (h.box s b e).2.grown g (by intro q; injection q with q; exact bk_ne (h.box s b e).2 hx (Ne.symm ht) q)⟩, h.inj, h.pre⟩
theorem Tri.later {W W' : World} {B : Nat} {G : Tg} (h : Tri W B G) (g : Below W.heap.size W W') : Tri W' B G :=
  ⟨h.root, fun s b e => ⟨(h.box s b e).1, (h.box s b e).2.lat g⟩, h.inj, h.pre⟩
theorem ShR.later {W W' : World} {b : Nat} {sh : Nat → Nat} (h : ShR W b sh) (g : Below W.heap.size W W') : ShR W' b sh := ⟨h.box.lat g, h.sz, h.ap⟩
theorem ShR.other {W W' : World} {b : Nat} {sh : Nat → Nat} {x : Nat} {y : Array Value} {t : TypeId} (h : ShR W b sh) (g : W.grownBy W' (some x)) (hx : BkP W x y t) (ht : t ≠ 185) : ShR W' b sh :=
  ⟨h.box.grown g (by intro q; injection q with q; exact bk_ne h.box hx (Ne.symm ht) q), h.sz, h.ap⟩
theorem PaR.later {W W' : World} {B : Nat} {p : Option Nat} {f : Nat → Nat} (h : PaR W B p f) (g : Below W.heap.size W W') : PaR W' B p f := by
  rcases h with h | ⟨b, sh, h1, h2, h3, h4⟩
  · exact .inl h
  · exact .inr ⟨b, sh, h1, h2, h3.later g, h4⟩
theorem PaR.other {W W' : World} {B : Nat} {p : Option Nat} {f : Nat → Nat} {x : Nat} {y : Array Value} {t : TypeId} (h : PaR W B p f) (g : W.grownBy W' (some x)) (hx : BkP W x y t) (ht : t ≠ 185) : PaR W' B p f := by
  rcases h with h | ⟨b, sh, h1, h2, h3, h4⟩
  · exact .inl h
  · exact .inr ⟨b, sh, h1, h2, h3.other g hx ht, h4⟩
theorem SlR.later {W W' : World} {B : Nat} {ps : Nat → Option Nat} {f : Nat → Nat} (h : SlR W B ps f) (g : Below W.heap.size W W') : SlR W' B ps f := fun j hj => (h j hj).later g
theorem SlR.other {W W' : World} {B : Nat} {ps : Nat → Option Nat} {f : Nat → Nat} {x : Nat} {y : Array Value} {t : TypeId} (h : SlR W B ps f) (g : W.grownBy W' (some x)) (hx : BkP W x y t) (ht : t ≠ 185) : SlR W' B ps f := fun j hj => (h j hj).other g hx ht
theorem SvR.later {W W' : World} {B : Nat} {G : Tg} {x tb : Nat} {ps : Nat → Option Nat} {s : Vs} (h : SvR W B G x tb ps s) (g : Below W.heap.size W W') : SvR W' B G x tb ps s := ⟨h.top, h.box.lat g, h.slt.later g, h.low⟩
theorem stA_size (tb h : Nat) (ps : Nat → Option Nat) : (stA tb h ps).size = 18 := by simp [stA]
theorem stA_top (tb h : Nat) (ps : Nat → Option Nat) : (stA tb h ps)[0]? = some (.pointer (some ⟨tb, 0, none⟩)) := by simp [stA]
theorem stA_ht (tb h : Nat) (ps : Nat → Option Nat) : (stA tb h ps)[1]? = some (.int .i64 (h : Int)) := by simp [stA]
theorem stA_sh (tb h : Nat) (ps : Nat → Option Nat) (j : Nat) (hj : j < 16) : (stA tb h ps)[2 + j]? = some (ptN (ps j)) := by
  unfold stA
  rw [show 2 + j = j + 1 + 1 by omega]
  simp [hj]
theorem shA_at (sh : Nat → Nat) (j : Nat) (hj : j < 32) : (shA sh)[j]? = some (.int .u64 ((sh j : Nat) : Int)) := by
  unfold shA
  simp [hj]
theorem shA_size (sh : Nat → Nat) : (shA sh).size = 32 := by simp [shA]
end Go.Proofs.YtpfjnnkjoabgbaaGreatDoor

namespace Go.Proofs.YtpfjnnkjoabgbaaGreatDoor
open Go.RowKit
set_option linter.unusedVariables false
set_option linter.unusedSimpArgs false
theorem pow_lt64V {k : Nat} (h : k < 64) : 2 ^ k < 18446744073709551616 := by
  have : 2 ^ k < 2 ^ 64 := Nat.pow_lt_pow_right (by omega) h
  simpa using this
theorem wrap_powV {k : Nat} (h : k < 64) : IntKind.u64.wrap (2 ^ k) = ((2 ^ k : Nat) : Int) := by
  have := pow_lt64V h
  rw [show (2 : Int) ^ k = ((2 ^ k : Nat) : Int) by simp]
  generalize 2 ^ k = m at *
  simp [IntKind.wrap, IntKind.bits, IntKind.signed]
  omega
set_option maxRecDepth 100000 in
theorem find_any (w : World) (n : Nat) (hn : n < 16384) : Calls Tryz.prog 135 #[.int .i64 (n : Int)] w fun e w' => e = .returned (.tuple #[.int .i64 ((n / 1024 : Nat) : Int), .int .i64 ((n % 1024 / 64 : Nat) : Int), .int .u64 ((2 ^ (n % 64) : Nat) : Int)]) ∧ Below w.heap.size w w' := by
  have d1 : Int.tdiv (n : Int) 1024 = ((n / 1024 : Nat) : Int) := by rw [Int.tdiv_eq_ediv_of_nonneg (by omega)]; simp
  have m1 : Int.tmod (n : Int) 1024 = ((n % 1024 : Nat) : Int) := by rw [Int.tmod_eq_emod_of_nonneg (by omega)]; simp
  have m2 : Int.tmod (n : Int) 64 = ((n % 64 : Nat) : Int) := by rw [Int.tmod_eq_emod_of_nonneg (by omega)]; simp
  have d2 : Int.tdiv ((n % 1024 : Nat) : Int) 64 = ((n % 1024 / 64 : Nat) : Int) := by rw [Int.tdiv_eq_ediv_of_nonneg (by omega)]; simp
  have w1 : ∀ x : Nat, x < 16384 → IntKind.i64.wrap (x : Int) = (x : Int) := fun x hx => by simp [IntKind.wrap, IntKind.bits, IntKind.signed]; omega
  have a1 := w1 (n / 1024) (by omega)
  have a2 := w1 (n % 1024) (by omega)
  have a3 := w1 (n % 1024 / 64) (by omega)
  have a4 := w1 (n % 64) (by omega)
  have P := wrap_powV (k := n % 64) (by omega)
  have mz : min (n % 64) 64 = n % 64 := by omega
  clear w1 hn
  generalize n / 1024 = x at *
  generalize n % 1024 / 64 = y at *
  generalize n % 1024 = u at *
  generalize n % 64 = z at *
  go_enter Tryz.func135, Tryz.ntmps135
  go_wp2
  go_quiet (fail)
  go_wp2
  go_ret3
  exact ⟨rfl, drewBP _ _⟩
theorem and_two (v k : Nat) : v &&& 2 ^ k = (v.testBit k).toNat * 2 ^ k := by
  apply Nat.eq_of_testBit_eq
  intro i
  rw [Nat.testBit_and, Nat.testBit_two_pow]
  by_cases e : k = i
  · subst e
    cases h : v.testBit k <;> simp [h, Nat.testBit_two_pow]
  · cases h : v.testBit k <;> simp [e, Nat.testBit_two_pow]
theorem and_pow (v k : Nat) (hv : v < 18446744073709551616) (hk : k < 64) : bits .and .u64 (v : Int) ((2 ^ k : Nat) : Int) = (((v.testBit k).toNat * 2 ^ k : Nat) : Int) := by
  rw [u64_and_nat v (2 ^ k) hv (pow_lt64V hk), and_two]
theorem and_yes (v k : Nat) (hv : v < 18446744073709551616) (hk : k < 64) (h : v.testBit k = true) : ((bits .and .u64 (v : Int) ((2 ^ k : Nat) : Int)) != 0) = true := by
  rw [and_pow v k hv hk, h]
  have := Nat.two_pow_pos k
  generalize 2 ^ k = m at *
  simp
  omega
theorem and_no (v k : Nat) (hv : v < 18446744073709551616) (hk : k < 64) (h : v.testBit k = false) : ((bits .and .u64 (v : Int) ((2 ^ k : Nat) : Int)) != 0) = false := by
  rw [and_pow v k hv hk, h]
  simp
def pgO (a b : Int) : Obj := .cells #[.int .u64 a, .int .u64 b] 183
set_option maxRecDepth 100000 in
theorem kept_any {w : World} {B : Nat} {G : Tg} {x tb : Nat} {ps : Nat → Option Nat} {s : Vs} (h : SvR w B G x tb ps s) (n : Nat) (hn : n < 16384) :
    Calls Tryz.prog 103 #[.pointer (some ⟨x, 2, none⟩), .int .i64 (n : Int)] w fun e w' => e = .returned (.int .u8 ((s.sl n : Nat) : Int)) ∧ Below w.heap.size w w' := by
  have F := Lib.hid (find_any w n hn)
  have hj : n / 1024 < 16 := by omega
  have en : n / 1024 * 1024 + n % 1024 = n := by omega
  have P := h.slt (n / 1024) hj
  have C := Lib.hid (fun W (b : Below w.heap.size w W) => (h.box.lat b).cell (2 + n / 1024))
  have hy : n % 1024 / 64 < 16 := by omega
  have hz : n % 64 < 64 := by omega
  have ez : n % 1024 % 64 = n % 64 := by omega
  rcases P with ⟨p0, pz⟩ | ⟨b, sh, p0, _, hS, pf⟩
  · have R : s.sl n = 0 := by have := pz (n % 1024) (by omega); simp only [en] at this; exact this
    rw [R]
    simp only [stA_sh _ _ _ _ hj, p0, ptN, Option.map_none] at C
    clear h pz R p0
    generalize n / 1024 = j at *
    generalize n % 1024 / 64 = y at *
    generalize n % 64 = z at *
    have k0 : ¬ (j : Int) < 0 := by omega
    have k1 : (j : Int) < 16 := by omega
    go_enter Tryz.func103, Tryz.ntmps103
    go_wp2_with (go_at_call 135; refine F.out.mono ?_; rintro e w1 ⟨rfl, h1⟩; have B1 := Lib.hid h1; have c := C.out w1 h1; clear h1)
    go_ret
    exact ⟨rfl, B1.out⟩
  · have R : s.sl n = bitS sh (n % 1024) := by have := pf (n % 1024) (by omega); simp only [en] at this; exact this
    rw [R]
    unfold bitS
    rw [ez]
    simp only [stA_sh _ _ _ _ hj, p0, ptN, Option.map_some] at C
    have D0 := Lib.hid (fun W (b : Below w.heap.size w W) => (hS.box.lat b).cell (n % 1024 / 64 * 2))
    have D1 := Lib.hid (fun W (b : Below w.heap.size w W) => (hS.box.lat b).cell (n % 1024 / 64 * 2 + 1))
    simp only [shA_at _ (n % 1024 / 64 * 2) (by omega)] at D0
    simp only [shA_at _ (n % 1024 / 64 * 2 + 1) (by omega)] at D1
    have z0 := hS.sz (n % 1024 / 64 * 2)
    have z1 := hS.sz (n % 1024 / 64 * 2 + 1)
    clear h pf R p0 hS
    generalize sh (n % 1024 / 64 * 2) = u at *
    generalize sh (n % 1024 / 64 * 2 + 1) = v at *
    generalize n / 1024 = j at *
    generalize n % 1024 / 64 = y at *
    generalize n % 64 = z at *
    clear en ez hn
    have k0 : ¬ (j : Int) < 0 := by omega
    have k1 : (j : Int) < 16 := by omega
    have k2 : ¬ (y : Int) < 0 := by omega
    have k3 : (y : Int) < 16 := by omega
    cases t0 : u.testBit z with
    | true =>
      have a0 := and_yes u z z0 hz t0
      clear hz
      simp only [if_true]
      generalize 2 ^ z = m at *
      go_enter Tryz.func103, Tryz.ntmps103
      go_wp2_with (go_at_call 135; refine F.out.mono ?_; rintro e w1 ⟨rfl, h1⟩; have B1 := Lib.hid h1; have c := C.out w1 h1; have d0 := D0.out w1 h1; have d1 := D1.out w1 h1; clear h1)
      go_ret
      exact ⟨rfl, B1.out.alloc B1.out.size _⟩
    | false =>
      have a0 := and_no u z z0 hz t0
      cases t1 : v.testBit z with
      | true =>
        have a1 := and_yes v z z1 hz t1
        clear hz
        simp only [if_true, if_false, Bool.false_eq_true]
        generalize 2 ^ z = m at *
        go_enter Tryz.func103, Tryz.ntmps103
        go_wp2_with (go_at_call 135; refine F.out.mono ?_; rintro e w1 ⟨rfl, h1⟩; have B1 := Lib.hid h1; have c := C.out w1 h1; have d0 := D0.out w1 h1; have d1 := D1.out w1 h1; clear h1)
        go_ret
        exact ⟨rfl, B1.out.alloc B1.out.size _⟩
      | false =>
        have a1 := and_no v z z1 hz t1
        clear hz
        simp only [if_true, if_false, Bool.false_eq_true]
        generalize 2 ^ z = m at *
        go_enter Tryz.func103, Tryz.ntmps103
        go_wp2_with (go_at_call 135; refine F.out.mono ?_; rintro e w1 ⟨rfl, h1⟩; have B1 := Lib.hid h1; have c := C.out w1 h1; have d0 := D0.out w1 h1; have d1 := D1.out w1 h1; clear h1)
        go_ret
        exact ⟨rfl, B1.out.alloc B1.out.size _⟩
end Go.Proofs.YtpfjnnkjoabgbaaGreatDoor
