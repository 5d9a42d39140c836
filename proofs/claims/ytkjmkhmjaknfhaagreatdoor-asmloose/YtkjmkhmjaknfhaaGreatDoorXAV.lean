import Derived.Test.YtkjmkhmjaknfhaaGreatDoorXAU
import Derived.Test.YtkjmkhmjaknfhaaGreatDoorXAE
import Derived.Test.YtkjmkhmjaknfhaaGreatDoorXAC
import Derived.Lib.Strings
import Derived.Lib.Builder
import Derived.Lib.AppendStr
import Derived.Lib.OthersKept
import Derived.Lib.FrozenHead
import Derived.Test.YtkjmkhmjaknfhaaGreatDoorXAH
namespace Go.Proofs.YtkjmkhmjaknfhaaGreatDoor
open Go.RowKit
set_option linter.unusedVariables false
set_option linter.unusedSimpArgs false

def bkB (c : UInt8) : Bool := bkA (c.toNat : Int)
/-- The words that bytes say, one word being open. -/
def wLs : List UInt8 → List UInt8 → List (List UInt8)
  | cur, [] => if cur = [] then [] else [cur]
  | cur, c :: r => if bkB c = true then (if cur = [] then wLs [] r else cur :: wLs [] r) else if c.toNat = 59 then (if cur = [] then [] else [cur]) else wLs (cur ++ [c]) r
theorem wLs_blank {c : UInt8} {r : List UInt8} (h : bkB c = true) : wLs [] (c :: r) = wLs [] r := by rw [wLs, if_pos h, if_pos rfl]
theorem wLs_blanks : ∀ (b r : List UInt8), (∀ c ∈ b, bkB c = true) → wLs [] (b ++ r) = wLs [] r
  | [], r, _ => rfl
  | c :: b, r, h => by rw [List.cons_append, wLs_blank (h c (by simp)), wLs_blanks b r (fun x hx => h x (by simp [hx]))]
theorem wLs_end : ∀ (b : List UInt8) (cur : List UInt8), (∀ c ∈ b, bkB c = true) → wLs cur b = if cur = [] then [] else [cur]
  | [], cur, _ => by rw [wLs]
  | c :: b, cur, h => by
    rw [wLs, if_pos (h c (by simp))]
    have e := wLs_end b [] (fun x hx => h x (by simp [hx]))
    rw [if_pos rfl] at e
    rw [e]
/-- Blanks put in behind blanks, and at the end. -/
inductive SprB : List UInt8 → List UInt8 → Prop
  | fin (b : List UInt8) (h : ∀ c ∈ b, bkB c = true) : SprB [] b
  | byte {c : UInt8} {r t : List UInt8} (h : SprB r t) : SprB (c :: r) (c :: t)
  | more {c : UInt8} {r t : List UInt8} (b : List UInt8) (hc : bkB c = true) (hb : ∀ x ∈ b, bkB x = true) (h : SprB r t) : SprB (c :: r) (c :: (b ++ t))
theorem wLs_spr {r t : List UInt8} (h : SprB r t) : ∀ cur, wLs cur t = wLs cur r := by
  induction h with
  | fin b h => intro cur; rw [wLs_end b cur h, wLs]
  | byte h ih => intro cur; rw [wLs, wLs, ih [], ih]
  | more b hc hb h ih =>
    intro cur
    rw [wLs, wLs, if_pos hc, if_pos hc, wLs_blanks b _ hb, ih []]
/-- The bytes of a text from a place on. -/
theorem drop_at {s : ByteArray} {i : Nat} (h : i < s.size) : s.data.toList.drop i = s[i] :: s.data.toList.drop (i + 1) := by
  rw [List.drop_eq_getElem_cons (show i < s.data.toList.length from h)]
  rfl
theorem drop_out {s : ByteArray} {i : Nat} (h : ¬ i < s.size) : s.data.toList.drop i = [] := List.drop_eq_nil_of_le (Nat.le_of_not_lt h)
theorem seg_list (s : ByteArray) (i j : Nat) (hj : j ≤ s.size) : (s.extract i j).data.toList = (s.data.toList.drop i).take (j - i) := by
  rw [ByteArray.data_extract, Array.toList_extract, List.extract_eq_take_drop]
theorem wLs_run {s : ByteArray} : ∀ (n i : Nat) (cur : List UInt8), s.size - i = n → wLs cur (s.data.toList.drop i) = wLs (cur ++ (s.data.toList.drop i).take (fy wrA s i - i)) (s.data.toList.drop (fy wrA s i))
  | 0, i, cur, hn => by
    rw [fy_stop (fun q => by omega), Nat.sub_self, List.take_zero, List.append_nil]
  | n + 1, i, cur, hn => by
    by_cases q : i < s.size ∧ wrA (yb s i) = true
    · have ge := fy_ge wrA s (i + 1)
      have w := q.2
      rw [yb_lt q.1] at w
      have nb : ¬ bkB s[i] = true := by rw [show bkB s[i] = bkA (s[i].toNat : Int) from rfl, wrA_bk w]; decide
      have n59 : ¬ s[i].toNat = 59 := by
        intro e
        unfold wrA at w
        simp only [Bool.and_eq_true, bne_iff_ne, ne_eq] at w
        exact w.2 (by omega)
      rw [fy_go q.1 q.2, drop_at q.1, wLs, if_neg nb, if_neg n59, wLs_run n (i + 1) (cur ++ [s[i]]) (by omega), List.append_assoc]
      congr 2
      rw [show fy wrA s (i + 1) - i = (fy wrA s (i + 1) - (i + 1)) + 1 by omega, List.take_succ_cons]
      rfl
    · rw [fy_stop q, Nat.sub_self, List.take_zero, List.append_nil]
theorem wLs_skip {s : ByteArray} : ∀ (n i : Nat), s.size - i = n → wLs [] (s.data.toList.drop i) = wLs [] (s.data.toList.drop (fy bkA s i))
  | 0, i, hn => by rw [fy_stop (fun q => by omega)]
  | n + 1, i, hn => by
    by_cases q : i < s.size ∧ bkA (yb s i) = true
    · have w := q.2
      rw [yb_lt q.1] at w
      rw [fy_go q.1 q.2, drop_at q.1, wLs_blank w]
      exact wLs_skip n (i + 1) (by omega)
    · rw [fy_stop q]
theorem not_word {c : Int} (h0 : 0 ≤ c) (nb : ¬ bkA c = true) (nw : ¬ wrA c = true) : c = 59 := by
  unfold wrA at nw
  rw [Bool.eq_false_iff.2 nb] at nw
  simp at nw
  omega
theorem wds_list (s : ByteArray) : ∀ (n i : Nat), s.size - i = n → (wdsL s i).map (fun x => x.data.toList) = wLs [] (s.data.toList.drop i) := by
  intro n
  induction n using Nat.strongRecOn with
  | _ n ih =>
    intro i hn
    rw [wLs_skip _ i rfl]
    have g1 := fy_ge bkA s i
    have o1 := fy_out bkA s i
    rw [wdsL]
    by_cases h : fy bkA s i < s.size ∧ wrA (yb s (fy bkA s i)) = true
    · rw [dif_pos h, List.map_cons]
      have g2 := fy_ge wrA s (fy bkA s i + 1)
      have e2 := fy_go h.1 h.2
      have l2 := fy_le (p := wrA) (s := s) (i := fy bkA s i) (by omega)
      have o2 := fy_out wrA s (fy bkA s i)
      rw [wLs_run _ (fy bkA s i) [] rfl, List.nil_append, ← seg_list s _ _ l2, ih _ (by omega) _ rfl]
      have ne : (s.extract (fy bkA s i) (fy wrA s (fy bkA s i))).data.toList ≠ [] := by
        intro e
        have := congrArg List.length e
        rw [show (s.extract (fy bkA s i) (fy wrA s (fy bkA s i))).data.toList.length = (s.extract (fy bkA s i) (fy wrA s (fy bkA s i))).size from rfl, ByteArray.size_extract] at this
        simp at this
        omega
      generalize (s.extract (fy bkA s i) (fy wrA s (fy bkA s i))).data.toList = W at *
      by_cases q : fy wrA s (fy bkA s i) < s.size
      · rw [drop_at q]
        have nw : ¬ wrA (yb s (fy wrA s (fy bkA s i))) = true := fun z => o2 ⟨q, z⟩
        rw [yb_lt q] at nw
        by_cases b : bkB s[fy wrA s (fy bkA s i)] = true
        · rw [wLs_blank b, wLs, if_pos b, if_neg ne]
        · have c : s[fy wrA s (fy bkA s i)].toNat = 59 := by
            have := not_word (by omega) b nw
            omega
          rw [wLs, if_neg b, if_pos c, if_pos rfl, wLs, if_neg b, if_pos c, if_neg ne]
      · rw [drop_out q, wLs, if_pos rfl, wLs, if_neg ne]
    · rw [dif_neg h]
      by_cases q : fy bkA s i < s.size
      · rw [drop_at q]
        have nb : ¬ bkA (yb s (fy bkA s i)) = true := fun z => o1 ⟨q, z⟩
        have nw : ¬ wrA (yb s (fy bkA s i)) = true := fun z => h ⟨q, z⟩
        rw [yb_lt q] at nb nw
        have c : s[fy bkA s i].toNat = 59 := by
          have := not_word (by omega) nb nw
          omega
        rw [wLs, if_neg (show ¬ bkB s[fy bkA s i] = true from nb), if_pos c, if_pos rfl]
        rfl
      · rw [drop_out q, wLs, if_pos rfl]
        rfl
theorem map_inj_bytes : ∀ {l m : List ByteArray}, l.map (fun x => x.data.toList) = m.map (fun x => x.data.toList) → l = m
  | [], [], _ => rfl
  | [], _ :: _, h => by cases h
  | _ :: _, [], h => by cases h
  | x :: l, y :: m, h => by
    simp only [List.map_cons, List.cons.injEq] at h
    rw [map_inj_bytes h.2, ByteArray.ext (Array.toList_inj.1 h.1)]
/-- More blanks: the same words. -/
theorem wds_spread {s t : ByteArray} (b r : List UInt8) (hb : ∀ c ∈ b, bkB c = true) (ht : t.data.toList = b ++ r) (h : SprB s.data.toList r) : wdsL t 0 = wdsL s 0 := by
  have e1 := wds_list s _ 0 rfl
  have e2 := wds_list t _ 0 rfl
  rw [List.drop_zero] at e1 e2
  rw [ht, wLs_blanks b r hb, wLs_spr h] at e2
  have e := e2.trans e1.symm
  exact map_inj_bytes e
end Go.Proofs.YtkjmkhmjaknfhaaGreatDoor

namespace Go.Proofs.YtkjmkhmjaknfhaaGreatDoor
open Go.RowKit
set_option linter.unusedVariables false
set_option linter.unusedSimpArgs false
abbrev OK8 (b : Nat) (w w' : World) : Prop := Lib.OthersKept 5 (some b) w w'
/-- A builder that holds bytes. -/
abbrev Bd (B b : Nat) (l : List UInt8) (w : World) : Prop := Lib.IsBuilder 84 5 B b (Lib.byteCells l) w
abbrev BdU (B b : Nat) (l : List UInt8) (w : World) : Prop := Lib.BuilderAt 84 5 B b (.pointer (some ⟨b, 0, none⟩)) (Lib.byteCells l) w
theorem info8b : (Tryz.prog.info? 5).map (fun i => (i.zero, i.size, i.bytes)) = some (some (.int .u8 0), 1, 1) := by kernel_rfl
theorem infoB2 : (Tryz.prog.info? 84).map (·.size) = some 2 := by kernel_rfl
theorem liesB : liesAt Tryz.prog Tryz.prog.depth 84 (2 / Tryz.prog.cellsOf 84) 0 84 1 = true := by kernel_rfl
theorem row_kind {w : World} {B : Nat} {e : TypeId} {v : Value} {n : Nat} {xs : List Value} (h : w.ownsRow B e 1 v n xs) : ∀ g, v.ownBlock = some g → ∃ c fz, w.heap[g]? = some (.cells c e fz) := by
  intro g hg
  rcases h.2 with ⟨rfl, _⟩ | ⟨g', cap, cur, rfl, _, hb, _⟩
  · cases hg
  · have : g' = g := Option.some.inj hg
    subst this
    exact ⟨_, _, hb⟩
theorem ok8_gr {b : Nat} {w w1 w2 : World} {r : Option Nat} (h : OK8 b w w1) (g : w1.grownBy w2 r) (hr : ∀ k, r = some k → ∃ c fz, w1.heap[k]? = some (.cells c 5 fz)) : OK8 b w w2 := by
  intro k o ho h1 h2
  have hk := h k o ho h1 h2
  have hlt : k < w1.heap.size := (Array.getElem?_eq_some_iff.1 hk).1
  rw [g.block k hlt (fun e => ?_)]
  · exact hk
  · obtain ⟨c, fz, hc⟩ := hr k e.symm
    rw [hc] at hk
    exact h2 c fz (Option.some.inj hk).symm
set_option maxHeartbeats 1000000 in
set_option maxRecDepth 100000 in
theorem bdCheck_any {B b : Nat} {l : List UInt8} {w : World} (h : Bd B b l w) :
    Calls Tryz.prog 77 #[.pointer (some ⟨b, 0, none⟩)] w fun e w' => e = .returned (.tuple #[]) ∧ BdU B b l w' ∧ Below B w w' ∧ OK8 b w w' ∧ w.heap.size ≤ w'.heap.size := by
  obtain ⟨j, hj, hjs⟩ := Option.map_eq_some_iff.1 infoB2
  rcases h with h | h
  · have h0 := h.cell0
    have hsh := h.shape
    have hfz := h.frozen0
    go_enter Tryz.func77, Tryz.ntmps77
    go_wp2
    rw [Lib.run_to_unsafe w ⟨b, 0, none⟩ Tryz.underlying82 Tryz.underlying149 hj (by rw [hjs]; decide) hsh (Nat.zero_lt_succ 1)]
    simp only [Result.andThen]
    rw [Oper.upon_value]
    go_wp2
    rw [run_callFunc_extern Tryz.func105 (by kernel_rfl) (by kernel_rfl) (by kernel_rfl) (e := Extern.AbiNoEscape.same) (by kernel_rfl)]
    rw [Lib.run_noEscape]
    simp only [Result.andThen]
    rw [Oper.upon_value]
    go_wp2
    rw [Lib.run_from_unsafe w ⟨b, 0, none⟩ Tryz.underlying149 Tryz.underlying82 hj hsh liesB]
    simp only [Result.andThen]
    rw [Oper.upon_value]
    go_wp2
    go_end0
    exact ⟨rfl, h.used _, (Below.refl B w).setCell (p := ⟨b, 0, none⟩) h.1 _, (Lib.OthersKept.refl _ _ w).setCell ⟨b, 0, none⟩ rfl _, by simp⟩
  · have h0 := h.cell0
    go_enter Tryz.func77, Tryz.ntmps77
    go_wp2
    rw [Lib.run_neq_ptr_same w _ Tryz.underlying82 hj]
    go_wp2
    go_end0
    exact ⟨rfl, h, Below.refl B _, Lib.OthersKept.refl _ _ w, Nat.le_refl _⟩
set_option maxHeartbeats 2000000 in
set_option maxRecDepth 100000 in
theorem bdByte_any {B b : Nat} {l : List UInt8} {w : World} (h : Bd B b l w) (c : UInt8) (hl : l.length + 1 ≤ 140737488355328) (hB : B ≤ w.heap.size) :
    Calls Tryz.prog 76 #[.pointer (some ⟨b, 0, none⟩), .int .u8 (c.toNat : Int)] w fun e w' => e = .returned .nilIface ∧ BdU B b (l ++ [c]) w' ∧ Below B w w' ∧ OK8 b w w' ∧ w.heap.size ≤ w'.heap.size := by
  obtain ⟨i0, hi, hz0, hz1, hz2⟩ := info_parts info8b
  have KC := Lib.hid (bdCheck_any h)
  clear h
  go_enter Tryz.func76, Tryz.ntmps76
  go_wp2_with (first
    | (go_at_call 77; refine KC.out.mono ?_; rintro e w1 ⟨rfl, ⟨hb, v, hbk, hown, hne⟩, b1, o1, z1⟩; have c0 : w1.cell? ⟨b, 0, none⟩ = some (.pointer (some ⟨b, 0, none⟩)) := (by simp [World.cell?, hbk]); have c1 : w1.cell? ⟨b, 1, none⟩ = some v := (by simp [World.cell?, hbk]); have BK := Lib.hid hbk; have OW := Lib.hid hown; have NE := Lib.hid hne; have B1 := Lib.hid b1; have O1 := Lib.hid o1; have Z1 := Lib.hid z1; have HB := Lib.hid hb; clear hbk hown hne b1 o1 z1 hb)
    | (at_builtin; refine wpList_append_own_at _ rfl _ _ 37 rfl B 5 i0 _ 1 1 Tryz.underlying37 hi hz0 hz1 hz2 rfl (by decide) v _ (Lib.byteCells l) rfl (OW.out.alloc _) ⟨w1.heap.size, 0, none⟩ 1 1 [.int .u8 (c.toNat : Int)] rfl rfl (cell_one_new w1 _ _) (by intro u hu; simp at hu; subst hu; rfl) (by rw [Lib.byteCells_length]; unfold maxLen; omega) (by rw [Lib.byteCells_length]; omega) (Nat.le_trans (Nat.le_trans hB Z1.out) (by simp)) ?_; intro v2 w2 k1 k2 k3 k4; obtain ⟨g2, c2, rfl, _, _, _⟩ := row_someP k1 (fun e => by have := (k3.1 e).2; omega); have lb : b < w1.heap.size := (Array.getElem?_eq_some_iff.1 BK.out).1; have BK2 := Lib.hid (show w2.heap[b]? = some (.cells #[.pointer (some ⟨b, 0, none⟩), v] 84 (0, 0)) from (k2.block b (by simp; omega) (fun e => NE.out e.symm)).trans ((Below.heap_alloc _ _ _ lb).trans BK.out)); have d0 : w2.cell? ⟨b, 0, none⟩ = some (.pointer (some ⟨b, 0, none⟩)) := (by have := BK2.out; simp [World.cell?, this]); have d1 : w2.cell? ⟨b, 1, none⟩ = some v := (by have := BK2.out; simp [World.cell?, this]); have f1 : w2.frozen? ⟨b, 1, none⟩ = false := (by have := BK2.out; simp [World.frozen?, this]); have O2 := Lib.hid k1; have B2 := Lib.hid ((B1.out.alloc (Nat.le_trans hB Z1.out) _).grown k2 (Nat.le_trans (Nat.le_trans hB Z1.out) (by simp)) (fun k e => (OW.out.lt k e).1)); have X2 := Lib.hid (ok8_gr (O1.out.alloc _) k2 (fun k e => row_kind (OW.out.alloc _) k e)); have Z2 := Lib.hid (Nat.le_trans (Nat.le_trans Z1.out (by simp)) k2.size); clear k1 k2 k3 k4 c0 c1 lb))
  go_ret
  refine ⟨rfl, Lib.BuilderAt.put HB.out BK2.out (by have := O2.out; rw [Lib.byteCells_length]; simp only [Lib.byteCells_length] at this; simpa [Lib.byteCells] using this) (by decide), B2.out.setCell (p := ⟨b, 1, none⟩) HB.out _, X2.out.setCell ⟨b, 1, none⟩ rfl _, ?_⟩
  have := Z2.out
  simpa using this
end Go.Proofs.YtkjmkhmjaknfhaaGreatDoor

namespace Go.Proofs.YtkjmkhmjaknfhaaGreatDoor
open Go.RowKit
set_option linter.unusedVariables false
set_option linter.unusedSimpArgs false

def blL : List ByteArray := [⟨#[]⟩, ⟨#[32]⟩, ⟨#[9]⟩, ⟨#[32, 13, 32]⟩]
def blA (j : Nat) : ByteArray := blL.getD j ⟨#[]⟩
def blB (j : Nat) : List UInt8 := (blA j).data.toList
theorem blB_bk : ∀ j, j < 4 → ∀ c ∈ blB j, bkB c = true := by decide
theorem blB_lf : ∀ j, j < 4 → ∀ c ∈ blB j, c ≠ 10 := by decide
theorem blB_len : ∀ j, j < 4 → (blB j).length ≤ 3 := by decide
/-- Bytes with blanks put in behind spaces. -/
def spL (k : Nat) : Nat → List UInt8 → List UInt8
  | _, [] => []
  | i, c :: r => c :: ((if c = 32 then blB ((k + i) % 4) else []) ++ spL k (i + 1) r)
theorem spL_snoc (k : Nat) (c : UInt8) : ∀ (l : List UInt8) (i : Nat), spL k i (l ++ [c]) = spL k i l ++ (c :: if c = 32 then blB ((k + (i + l.length)) % 4) else [])
  | [], i => by simp [spL]
  | d :: l, i => by
    rw [List.cons_append, spL, spL, spL_snoc k c l (i + 1)]
    simp only [List.length_cons, List.cons_append, List.append_assoc, List.append_cancel_left_eq, List.cons.injEq, true_and]
    rw [show i + 1 + l.length = i + (l.length + 1) by omega]
theorem spL_spr (k : Nat) (b : List UInt8) (hb : ∀ c ∈ b, bkB c = true) : ∀ (r : List UInt8) (i : Nat), SprB r (spL k i r ++ b)
  | [], i => .fin b hb
  | c :: r, i => by
    rw [spL]
    by_cases h : c = 32
    · rw [if_pos h, List.cons_append, List.append_assoc]
      exact .more _ (by subst h; decide) (blB_bk _ (Nat.mod_lt _ (by decide))) (spL_spr k b hb r (i + 1))
    · rw [if_neg h, List.nil_append, List.cons_append]
      exact .byte (spL_spr k b hb r (i + 1))
theorem spL_lf (k : Nat) : ∀ (r : List UInt8) (i : Nat), (∀ c ∈ r, c ≠ 10) → ∀ c ∈ spL k i r, c ≠ 10
  | [], i, h => fun c hc => by cases hc
  | d :: r, i, h => fun c hc => by
    rw [spL] at hc
    rcases List.mem_cons.1 hc with rfl | hc
    · exact h _ (by simp)
    · rcases List.mem_append.1 hc with hc | hc
      · split at hc
        · exact blB_lf _ (Nat.mod_lt _ (by decide)) c hc
        · cases hc
      · exact spL_lf k r (i + 1) (fun x hx => h x (by simp [hx])) c hc
theorem spL_len (k : Nat) : ∀ (r : List UInt8) (i : Nat), (spL k i r).length ≤ 4 * r.length
  | [], i => by simp [spL]
  | c :: r, i => by
    have z := spL_len k r (i + 1)
    rw [spL, List.length_cons, List.length_append, List.length_cons]
    have : (if c = 32 then blB ((k + i) % 4) else []).length ≤ 3 := by
      split
      · exact blB_len _ (Nat.mod_lt _ (by decide))
      · simp
    omega
/-- A line with more blanks. -/
def spR (k : Nat) (s : ByteArray) : List UInt8 := blB ((k % 60 + 1) % 4) ++ (spL (k % 60) 0 s.data.toList ++ blB (k % 60 % 4))
theorem spR_ne (k : Nat) (s : ByteArray) : spR k s ≠ [] := by
  unfold spR
  intro h
  have h1 := List.append_eq_nil_iff.1 h
  have h2 := List.append_eq_nil_iff.1 h1.2
  have : ∀ j, j < 4 → blB ((j + 1) % 4) = [] → blB j = [] → False := by decide
  exact this (k % 60 % 4) (Nat.mod_lt _ (by decide)) (by rw [Nat.mod_add_mod]; exact h1.1) h2.2
theorem spR_wds (k : Nat) (s : ByteArray) : wdsL ⟨(spR k s).toArray⟩ 0 = wdsL s 0 := by
  refine wds_spread (blB ((k % 60 + 1) % 4)) _ (blB_bk _ (Nat.mod_lt _ (by decide))) rfl (spL_spr _ _ (blB_bk _ (Nat.mod_lt _ (by decide))) _ 0)
theorem spR_len (k : Nat) (s : ByteArray) : (spR k s).length ≤ 4 * s.size + 6 := by
  unfold spR
  rw [List.length_append, List.length_append]
  have := spL_len (k % 60) s.data.toList 0
  have e : s.data.toList.length = s.size := Array.length_toList
  have := blB_len ((k % 60 + 1) % 4) (Nat.mod_lt _ (by decide))
  have := blB_len (k % 60 % 4) (Nat.mod_lt _ (by decide))
  omega
theorem spR_lf (k : Nat) (s : ByteArray) (h : ∀ c ∈ s.data.toList, c ≠ 10) : ∀ c ∈ spR k s, c ≠ 10 := by
  intro c hc
  unfold spR at hc
  rcases List.mem_append.1 hc with hc | hc
  · exact blB_lf _ (Nat.mod_lt _ (by decide)) c hc
  · rcases List.mem_append.1 hc with hc | hc
    · exact spL_lf _ _ _ h c hc
    · exact blB_lf _ (Nat.mod_lt _ (by decide)) c hc
theorem spR_row {W : World} {B : Nat} {v : Value} {k : Nat} {s : ByteArray} (h : W.ownsRow B 5 1 v ((blB ((k % 60 + 1) % 4) ++ spL (k % 60) 0 s.data.toList).length + (blA (k % 60 % 4)).size) (Lib.byteCells (blB ((k % 60 + 1) % 4) ++ spL (k % 60) 0 s.data.toList) ++ Lib.strCells (blA (k % 60 % 4)))) : W.ownsRow B 5 1 v (spR k s).length (Lib.byteCells (spR k s)) := by
  rw [strCells_bytes] at h
  have e : (blB (k % 60 % 4)).length = (blA (k % 60 % 4)).size := Array.length_toList
  unfold spR
  rw [← List.append_assoc, List.length_append, e]
  have e2 : Lib.byteCells (blB ((k % 60 + 1) % 4) ++ spL (k % 60) 0 s.data.toList ++ blB (k % 60 % 4)) = Lib.byteCells (blB ((k % 60 + 1) % 4) ++ spL (k % 60) 0 s.data.toList) ++ Lib.byteCells (blB (k % 60 % 4)) := by simp [Lib.byteCells]
  rw [e2]
  exact h
set_option maxRecDepth 100000 in
set_option maxHeartbeats 4000000 in
theorem spread_any (s : ByteArray) (k : Nat) (hk : k < 9223372036854775808) (hs : s.size ≤ 16777216) (w : World) :
    Calls Tryz.prog 16 #[.string s, .int .i64 (k : Int)] w fun e w' => e = .returned (.string ⟨(spR k s).toArray⟩) ∧ Below w.heap.size w w' := by
  obtain ⟨i0, hi, hz0, hz1, hz2⟩ := info_parts info8a
  have SL := Lib.hid hs
  obtain ⟨W2, hW2⟩ : ∃ y, (w.alloc (.cells #[.string ⟨#[]⟩, .string ⟨#[32]⟩, .string ⟨#[9]⟩, .string ⟨#[32, 13, 32]⟩] 68)).alloc (.cells #[] 5) = y := ⟨_, rfl⟩
  have A2 := Lib.hid (p := Below w.heap.size w W2) (by rw [← hW2]; exact ((Below.refl w.heap.size w).alloc (Nat.le_refl _) _).alloc (by simp) _)
  have Z2 := Lib.hid (p := W2.heap.size = w.heap.size + 2) (by rw [← hW2]; simp)
  have b1 : W2.heap[w.heap.size]? = some (.cells #[.string ⟨#[]⟩, .string ⟨#[32]⟩, .string ⟨#[9]⟩, .string ⟨#[32, 13, 32]⟩] 68) := by
    rw [← hW2]
    show ((w.heap.push _).push _)[_]? = _
    rw [Array.getElem?_push]; simp
  have b2 : W2.heap[w.heap.size + 1]? = some (.cells #[] 5) := by
    rw [← hW2]
    show ((w.heap.push _).push _)[_]? = _
    rw [Array.getElem?_push]; simp
  have CB := Lib.hid (p := ∀ W, Below (w.heap.size + 1) W2 W → ∀ j, j < 4 → W.cell? ⟨w.heap.size, j, none⟩ = some (.string (blA j))) (fun W b j hj => by
    have e : BkP W w.heap.size _ _ := (b.block w.heap.size (Nat.lt_succ_self _)).trans b1
    rw [e.cell]
    rcases (show j = 0 ∨ j = 1 ∨ j = 2 ∨ j = 3 by omega) with rfl | rfl | rfl | rfl <;> rfl)
  have O2 := Lib.hid (p := W2.ownsRow (w.heap.size + 1) 5 1 (.slice (some ⟨w.heap.size + 1, 0, none⟩) 0 0) 0 []) ⟨rfl, .inr ⟨w.heap.size + 1, 0, #[], rfl, Nat.le_refl _, b2, Nat.le_refl _, by unfold maxLen; omega, rfl, rfl⟩⟩
  have j1 : (k % 60 + 1) % 4 < 4 := Nat.mod_lt _ (by decide)
  have j3 : k % 60 % 4 < 4 := Nat.mod_lt _ (by decide)
  have x1 : ((w.alloc (.cells #[.string ⟨#[]⟩, .string ⟨#[32]⟩, .string ⟨#[9]⟩, .string ⟨#[32, 13, 32]⟩] 68)).alloc (.cells #[] 5)).cell? ⟨w.heap.size, (k % 60 + 1) % 4, none⟩ = some (.string (blA ((k % 60 + 1) % 4))) := by rw [hW2]; exact CB.out W2 (Below.refl _ _) _ j1
  have HW2 := Lib.hid hW2
  have LP := Lib.hid (p := ∀ i, i ≤ s.size → (blB ((k % 60 + 1) % 4) ++ spL (k % 60) 0 (s.data.toList.take i)).length ≤ 4 * s.size + 3) (fun i hi => by
    have := spL_len (k % 60) (s.data.toList.take i) 0
    have e : s.data.toList.length = s.size := Array.length_toList
    have := blB_len _ j1
    rw [List.length_append]
    rw [List.length_take] at *
    omega)
  have BZ := Lib.hid (p := ∀ j, j < 4 → (blA j).size ≤ 3) (by decide)
  clear hW2 b1 b2 hs
  have B2 := Lib.hid (Below.refl (w.heap.size + 1) W2)
  go_enter Tryz.func16, Tryz.ntmps16
  have A9 : True := trivial
  have Z9 := Lib.hid (p := 0 + (blA ((k % 60 + 1) % 4)).size ≤ maxLen ∧ 0 + (blA ((k % 60 + 1) % 4)).size ≤ 140737488355328) (by have := BZ.out _ j1; unfold maxLen; omega)
  go_wp2_with (at_builtin; have qq := A9; rw [HW2.out]; refine Lib.wpList_append_own_string _ rfl _ _ 37 9 rfl (w.heap.size + 1) 5 i0 Tryz.underlying37 Tryz.underlying9 hi hz0 hz1 hz2 _ 0 [] rfl O2.out (blA ((k % 60 + 1) % 4)) rfl Z9.out.1 Z9.out.2 (by have := Z2.out; omega) ?_; intro v3 w3 k1 k2 _; have O3 := Lib.hid k1; have B3 := Lib.hid (B2.out.grown k2 (by have := Z2.out; omega) (fun q e => (O2.out.lt q e).1)); clear k1 k2 A9 x1)
  have OP := Lib.hid (p := w3.ownsRow (w.heap.size + 1) 5 1 v3 (blB ((k % 60 + 1) % 4)).length (Lib.byteCells (blB ((k % 60 + 1) % 4)))) (by
    have := O3.out
    rw [strCells_bytes, List.nil_append, Nat.zero_add] at this
    have e : (blB ((k % 60 + 1) % 4)).length = (blA ((k % 60 + 1) % 4)).size := Array.length_toList
    rw [e]; exact this)
  clear O3 O2 Z9
  go_loopw [6, 7] (fun v t W => ∃ (i : Nat) (u : Value), i ≤ s.size ∧ u = v ∧ t = .int .i64 (i : Int) ∧ RowKit.Hid (W.ownsRow (w.heap.size + 1) 5 1 u (blB ((k % 60 + 1) % 4) ++ spL (k % 60) 0 (s.data.toList.take i)).length (Lib.byteCells (blB ((k % 60 + 1) % 4) ++ spL (k % 60) 0 (s.data.toList.take i)))) ∧ RowKit.Hid (Below (w.heap.size + 1) W2 W)) (fun _ t _ => s.size - (intOf t).toNat)
  case atStart => exact ⟨0, _, Nat.zero_le _, rfl, rfl, by rw [List.take_zero, spL, List.append_nil]; exact OP.out, B3.out⟩
  case round =>
    rename World => W
    obtain ⟨i, v, hi', rfl, rfl, HO, HB⟩ := hrel
    clear OP B3
    have sW := Lib.hid (p := w.heap.size + 1 ≤ W.heap.size) (by have := HB.out.size; have := Z2.out; omega)
    by_cases hlt : i < s.size
    · have ic : (i : Int) < (s.size : Int) := by omega
      have j2 : (k % 60 + i) % 4 < 4 := Nat.mod_lt _ (by decide)
      have hl : i < s.data.toList.length := hlt
      have ST := Lib.hid (p := spL (k % 60) 0 (s.data.toList.take (i + 1)) = spL (k % 60) 0 (s.data.toList.take i) ++ (s[i] :: if s[i] = 32 then blB ((k % 60 + i) % 4) else [])) (by
        rw [List.take_succ_eq_append_getElem hl, spL_snoc, List.length_take, Nat.min_eq_left (by omega), Nat.zero_add]
        rfl)
      have L0 := LP.out i (by omega)
      have L1 := LP.out (i + 1) (by omega)
      rw [ST.out] at L1
      have XB := Lib.hid (fun W' b => CB.out W' b _ j2)
      have BZ2 := Lib.hid (BZ.out _ j2)
      have sz := SL.out
      generalize hP : blB ((k % 60 + 1) % 4) ++ spL (k % 60) 0 (s.data.toList.take i) = P at *
      have Z4 := Lib.hid (p := P.length + 1 + 3 ≤ maxLen ∧ P.length + 1 + 3 ≤ 140737488355328) (by unfold maxLen; omega)
      clear L0 L1
      by_cases hc : s[i] = 32
      · have hc' : ((s[i].toNat : Int) == 32) = true := by rw [hc]; rfl
        have ST1 := Lib.hid (p := blB ((k % 60 + 1) % 4) ++ spL (k % 60) 0 (s.data.toList.take (i + 1)) = P ++ [s[i]] ++ blB ((k % 60 + i) % 4)) (by rw [ST.out, if_pos hc, ← hP]; simp)
        clear hP ST hc
        have A9 : True := trivial
        go_wp2_with (first
          | (at_builtin; have qq := A9; refine wpList_append_own_at _ rfl _ _ 37 rfl (w.heap.size + 1) 5 i0 _ 1 1 Tryz.underlying37 hi hz0 hz1 hz2 rfl (by decide) v _ _ rfl (HO.out.alloc _) ⟨W.heap.size, 0, none⟩ 1 1 [.int .u8 (s[i].toNat : Int)] rfl rfl (cell_one_new W _ _) (by intro u hu; simp at hu; subst hu; rfl) (by have := Z4.out; omega) (by have := Z4.out; omega) (Nat.le_trans sW.out (by simp)) ?_; intro v5 w5 k1 k2 k3 k4; have O5 := Lib.hid k1; have B5 := Lib.hid ((HB.out.alloc sW.out _).grown k2 (Nat.le_trans sW.out (by simp)) (fun q e => (HO.out.lt q e).1)); have s5 := Lib.hid (Nat.le_trans (Nat.le_trans sW.out (by simp)) k2.size); have x5 := XB.out _ B5.out; clear k1 k2 k3 k4 A9)
          | (at_builtin; have qq := O5; refine Lib.wpList_append_own_string _ rfl _ _ 37 9 rfl (w.heap.size + 1) 5 i0 Tryz.underlying37 Tryz.underlying9 hi hz0 hz1 hz2 _ _ _ rfl O5.out (blA ((k % 60 + i) % 4)) rfl (by have := Z4.out; have := BZ2.out; omega) (by have := Z4.out; have := BZ2.out; omega) s5.out ?_; intro v6 w6 k1 k2 _; have O6 := Lib.hid k1; have B6 := Lib.hid (B5.out.grown k2 s5.out (fun q e => (O5.out.lt q e).1)); clear k1 k2))
        go_roundw
        case rel =>
          refine ⟨i + 1, _, by omega, rfl, by go_num, ?_, B6.out⟩
          have := O6.out
          rw [strCells_bytes] at this
          rw [ST1.out]
          have e : (blB ((k % 60 + i) % 4)).length = (blA ((k % 60 + i) % 4)).size := Array.length_toList
          have e2 : Lib.byteCells (P ++ [s[i]] ++ blB ((k % 60 + i) % 4)) = Lib.byteCells P ++ [.int .u8 (s[i].toNat : Int)] ++ Lib.byteCells (blB ((k % 60 + i) % 4)) := by simp [Lib.byteCells]
          rw [e2, List.length_append, List.length_append, e]
          exact this
        case measure => simp [intOf]; omega
      · have hc' : ((s[i].toNat : Int) == 32) = false := by
          rw [beq_eq_false_iff_ne]; intro q; exact hc (by apply UInt8.toNat_inj.1; simpa using (by omega : s[i].toNat = 32))
        have ST1 := Lib.hid (p := blB ((k % 60 + 1) % 4) ++ spL (k % 60) 0 (s.data.toList.take (i + 1)) = P ++ [s[i]]) (by rw [ST.out, if_neg hc, ← hP]; simp)
        clear hP ST hc
        go_wp2_with (at_builtin; refine wpList_append_own_at _ rfl _ _ 37 rfl (w.heap.size + 1) 5 i0 _ 1 1 Tryz.underlying37 hi hz0 hz1 hz2 rfl (by decide) v _ _ rfl (HO.out.alloc _) ⟨W.heap.size, 0, none⟩ 1 1 [.int .u8 (s[i].toNat : Int)] rfl rfl (cell_one_new W _ _) (by intro u hu; simp at hu; subst hu; rfl) (by have := Z4.out; omega) (by have := Z4.out; omega) (Nat.le_trans sW.out (by simp)) ?_; intro v5 w5 k1 k2 k3 k4; have O5 := Lib.hid k1; have B5 := Lib.hid ((HB.out.alloc sW.out _).grown k2 (Nat.le_trans sW.out (by simp)) (fun q e => (HO.out.lt q e).1)); clear k1 k2 k3 k4)
        go_roundw
        case rel =>
          refine ⟨i + 1, _, by omega, rfl, by go_num, ?_, B5.out⟩
          have := O5.out
          rw [ST1.out]
          have e2 : Lib.byteCells (P ++ [s[i]]) = Lib.byteCells P ++ [.int .u8 (s[i].toNat : Int)] := by simp [Lib.byteCells]
          rw [e2, List.length_append]
          exact this
        case measure => simp [intOf]; omega
    · obtain rfl : i = s.size := by omega
      have x3 := CB.out W HB.out _ j3
      have BZ3 := Lib.hid (BZ.out _ j3)
      obtain ⟨bz, hbz⟩ : ∃ b, blA (k % 60 % 4) = b := ⟨_, rfl⟩
      rw [hbz, show k % 60 % 4 = k % 4 from Nat.mod_mod_of_dvd k (by decide)] at x3
      rw [hbz] at BZ3
      have HZ3 := Lib.hid hbz
      clear hbz
      have L0 := LP.out s.size (Nat.le_refl _)
      have sz := SL.out
      have e0 : s.data.toList.take s.size = s.data.toList := List.take_of_length_le (Nat.le_of_eq Array.length_toList)
      rw [e0] at L0 HO
      have Z4 := Lib.hid (p := (blB ((k % 60 + 1) % 4) ++ spL (k % 60) 0 s.data.toList).length + 3 ≤ maxLen ∧ (blB ((k % 60 + 1) % 4) ++ spL (k % 60) 0 s.data.toList).length + 3 ≤ 140737488355328) (by unfold maxLen; omega)
      clear L0 e0
      go_wp2_with (at_builtin; refine Lib.wpList_append_own_string _ rfl _ _ 37 9 rfl (w.heap.size + 1) 5 i0 Tryz.underlying37 Tryz.underlying9 hi hz0 hz1 hz2 _ _ _ rfl HO.out bz rfl (by have := Z4.out; have := BZ3.out; omega) (by have := Z4.out; have := BZ3.out; omega) sW.out ?_; intro v6 w6 k1 k2 _; have B6 := Lib.hid (HB.out.grown k2 sW.out (fun q e => (HO.out.lt q e).1)); have O6 := spR_row (k := k) (s := s) (by rw [HZ3.out]; exact k1); obtain ⟨g', cap, rfl, CV⟩ := conv_bytes13 O6 (spR_ne k s); clear k1 k2 O6)
      go_ret
      exact ⟨rfl, A2.out.trans (B6.out.mono (by have := Z2.out; omega))⟩
end Go.Proofs.YtkjmkhmjaknfhaaGreatDoor

namespace Go.Proofs.YtkjmkhmjaknfhaaGreatDoor
open Go.RowKit
set_option linter.unusedVariables false
set_option linter.unusedSimpArgs false

/-- A line, what it has become, and the lines put in ahead of it. -/
structure InsG where
  ins : List ByteArray
  old : ByteArray
  new : ByteArray
def InsG.ok (g : InsG) : Prop := (∀ x ∈ g.ins, wdsL x 0 = []) ∧ wdsL g.new 0 = wdsL g.old 0
def InsG.ls (g : InsG) : List ByteArray := g.ins ++ [g.new]
/-- How many lines the first groups have become. -/
def cntG (gs : List InsG) : Nat := (gs.map fun g => g.ins.length + 1).sum
theorem cntG_cons (g : InsG) (gs : List InsG) : cntG (g :: gs) = g.ins.length + 1 + cntG gs := by simp [cntG]
theorem apAll_skip : ∀ (ins ls : List ByteArray) (n : Nat) (st : Nat × Ap), (∀ x ∈ ins, wdsL x 0 = []) → apAll (ins ++ ls) n st = apAll ls (n + ins.length) st
  | [], ls, n, st, _ => rfl
  | x :: ins, ls, n, st, h => by
    rw [List.cons_append]
    simp only [apAll, h x (by simp)]
    rw [apAll_skip ins ls (n + 1) st (fun y hy => h y (by simp [hy])), List.length_cons]
    congr 1
    omega
theorem apAll_ins : ∀ (gs : List InsG) (n0 m0 : Nat) (st : Nat × Ap), (∀ g ∈ gs, g.ok) →
    (∀ n, apAll (gs.map (·.old)) n0 st = .error n → n0 < n ∧ n ≤ n0 + gs.length ∧ apAll (gs.flatMap InsG.ls) m0 st = .error (m0 + cntG (gs.take (n - n0)))) ∧
    (∀ n st', apAll (gs.map (·.old)) n0 st = .ok (n, st') → n = n0 + gs.length ∧ apAll (gs.flatMap InsG.ls) m0 st = .ok (m0 + cntG gs, st'))
  | [], n0, m0, st, _ => by
    refine ⟨(fun n h => by simp only [List.map_nil, apAll] at h; cases h), fun n st' h => ?_⟩
    simp only [List.map_nil, apAll, Except.ok.injEq, Prod.mk.injEq] at h
    obtain ⟨rfl, rfl⟩ := h
    exact ⟨rfl, rfl⟩
  | g :: gs, n0, m0, st, hg => by
    obtain ⟨h1, h2⟩ := hg g (by simp)
    have hg' : ∀ x ∈ gs, x.ok := fun x hx => hg x (by simp [hx])
    have e : apAll ((g :: gs).flatMap InsG.ls) m0 st = apAll (g.new :: gs.flatMap InsG.ls) (m0 + g.ins.length) st := by
      rw [List.flatMap_cons, InsG.ls, List.append_assoc, apAll_skip _ _ _ _ h1]
      rfl
    rw [e]
    simp only [List.map_cons, apAll, h2]
    have one : ∀ n, n0 < n → m0 + cntG ((g :: gs).take (n - n0)) = m0 + g.ins.length + 1 + cntG (gs.take (n - (n0 + 1))) := fun n h => by
      rw [show n - n0 = (n - (n0 + 1)) + 1 by omega, List.take_succ_cons, cntG_cons]
      omega
    cases hw : wdsL g.old 0 with
    | nil =>
      simp only
      obtain ⟨i1, i2⟩ := apAll_ins gs (n0 + 1) (m0 + g.ins.length + 1) st hg'
      refine ⟨fun n h => ?_, fun n st' h => ?_⟩
      · obtain ⟨a, b, c⟩ := i1 n h
        exact ⟨by omega, by simp only [List.length_cons]; omega, by rw [c, one n (by omega)]⟩
      · obtain ⟨a, c⟩ := i2 n st' h
        exact ⟨by simp only [List.length_cons]; omega, by rw [c, cntG_cons]; congr 2; omega⟩
    | cons w ws =>
      simp only
      cases ha : apLine st w ws with
      | none =>
        simp only
        refine ⟨fun n h => ?_, (fun n st' h => by cases h)⟩
        injection h with h
        subst h
        refine ⟨by omega, by simp only [List.length_cons]; omega, ?_⟩
        rw [one _ (by omega), Nat.sub_self, List.take_zero]
        rfl
      | some st2 =>
        simp only
        obtain ⟨i1, i2⟩ := apAll_ins gs (n0 + 1) (m0 + g.ins.length + 1) st2 hg'
        refine ⟨fun n h => ?_, fun n st' h => ?_⟩
        · obtain ⟨a, b, c⟩ := i1 n h
          exact ⟨by omega, by simp only [List.length_cons]; omega, by rw [c, one n (by omega)]⟩
        · obtain ⟨a, c⟩ := i2 n st' h
          exact ⟨by simp only [List.length_cons]; omega, by rw [c, cntG_cons]; congr 2; omega⟩
end Go.Proofs.YtkjmkhmjaknfhaaGreatDoor
