import Derived.Test.YtccjeipkljdhdaaGreatDoorXAY
import Derived.Test.YtccjeipkljdhdaaGreatDoorXAZ
import Derived.Test.YtccjeipkljdhdaaGreatDoorXBA
import Derived.Test.YtccjeipkljdhdaaGreatDoorXBD
import Derived.Test.YtccjeipkljdhdaaGreatDoorXAP
import Derived.Test.YtccjeipkljdhdaaGreatDoorXBE
namespace Go.Proofs.YtccjeipkljdhdaaGreatDoor
open Go.RowKit
set_option linter.unusedVariables false
set_option linter.unusedSimpArgs false

/-- What stands while a text is split. -/
structure SpI (s : ByteArray) (us : List ByteArray) (at_ i : Nat) : Prop where
  all : us ++ lnsL s at_ = lnsL s 0
  le : at_ ≤ i
  li : i ≤ s.size
  eq : fy lfA s at_ = fy lfA s i
  len : us.length ≤ i
theorem SpI.on {s : ByteArray} {us : List ByteArray} {a i : Nat} (h : SpI s us a i) (hi : i < s.size) (y : yb s i ≠ 10) : SpI s us a (i + 1) :=
  ⟨h.all, by have := h.le; omega, by omega, by rw [h.eq]; exact fy_go hi (by simp [lfA, y]), by have := h.len; omega⟩
theorem SpI.cut {s : ByteArray} {us : List ByteArray} {a i : Nat} (h : SpI s us a i) (hi : i < s.size) (y : yb s i = 10) : SpI s (us ++ [s.extract a i]) (i + 1) (i + 1) := by
  have e : fy lfA s a = i := by rw [h.eq]; exact fy_stop (fun q => by have := q.2; simp [lfA, y] at this)
  have le := h.le
  refine ⟨?_, Nat.le_refl _, by omega, rfl, by have := h.len; simp; omega⟩
  rw [← h.all, lnsL.eq_def s a, dif_pos (by omega), e]
  simp
end Go.Proofs.YtccjeipkljdhdaaGreatDoor

namespace Go.Proofs.YtccjeipkljdhdaaGreatDoor
open Go.RowKit
set_option linter.unusedVariables false
set_option linter.unusedSimpArgs false

/-- What stands while a line's words are looked for: from -1: none is open. -/
structure WdI (s : ByteArray) (us : List ByteArray) (from_ : Int) (i : Nat) : Prop where
  wi : ∃ (bg : Nat) (op : Bool), WI s i bg op us ∧ from_ = if op = true then (bg : Int) else -1
  len : us.length ≤ i
theorem WdI.bd {s : ByteArray} {us : List ByteArray} {f : Int} {i : Nat} (h : WdI s us f i) : f = -1 ∨ ∃ b : Nat, f = (b : Int) ∧ b ≤ i := by
  obtain ⟨bg, op, h1, h2⟩ := h.wi
  rcases h1 with ⟨rfl, q, _⟩ | ⟨rfl, _⟩
  · rw [if_pos rfl] at h2
    exact .inr ⟨bg, h2, q⟩
  · rw [if_neg (by decide)] at h2
    exact .inl h2
end Go.Proofs.YtccjeipkljdhdaaGreatDoor

namespace Go.Proofs.YtccjeipkljdhdaaGreatDoor
open Go.RowKit
set_option linter.unusedVariables false
set_option linter.unusedSimpArgs false

/-- A text without a line feed. -/
def NoLf (a : ByteArray) : Prop := ∀ i, i < a.size → yb a i ≠ 10
/-- A line and its feed ahead of a text. -/
def lfT (a r : ByteArray) : ByteArray := a ++ (⟨#[10]⟩ ++ r)
theorem lfT_size (a r : ByteArray) : (lfT a r).size = a.size + 1 + r.size := by
  unfold lfT
  rw [ByteArray.size_append, ByteArray.size_append]
  have : (ByteArray.mk #[10]).size = 1 := rfl
  omega
theorem yb_app (a b : ByteArray) (i : Nat) : yb (a ++ b) i = if i < a.size then yb a i else yb b (i - a.size) := by
  by_cases h : i < a.size
  · rw [if_pos h, yb_lt h, yb_lt (show i < (a ++ b).size by rw [ByteArray.size_append]; omega), ByteArray.getElem_append_left h]
  · rw [if_neg h]
    by_cases h2 : i < (a ++ b).size
    · have h3 : i - a.size < b.size := by rw [ByteArray.size_append] at h2; omega
      rw [yb_lt h2, yb_lt h3, ByteArray.getElem_append_right (by omega)]
    · unfold yb
      rw [dif_neg h2, dif_neg (by rw [ByteArray.size_append] at h2; omega)]
theorem yb_lf (r : ByteArray) : yb (ByteArray.mk #[10] ++ r) 0 = 10 := by
  rw [yb_app, if_pos (by decide)]
  rfl
theorem fy_lfT {a r : ByteArray} (h : NoLf a) : fy lfA (lfT a r) 0 = a.size := by
  have sz := lfT_size a r
  have e := fy_run (p := lfA) (s := lfT a r) (i := 0) a.size (fun j hj => ⟨by omega, by
    rw [Nat.zero_add]
    unfold lfT
    rw [yb_app, if_pos hj]
    have := h j hj
    simp [lfA, this]⟩)
  rw [e, Nat.zero_add]
  refine fy_stop (fun q => ?_)
  have y : yb (lfT a r) a.size = 10 := by
    unfold lfT
    rw [yb_app, if_neg (by omega), Nat.sub_self]
    exact yb_lf r
  rw [y] at q
  exact absurd q.2 (by decide)
theorem lnsR_lfT {a r : ByteArray} (h : NoLf a) : lnsR (lfT a r) = a :: lnsR r := by
  have sz := lfT_size a r
  have one : (ByteArray.mk #[10]).size = 1 := rfl
  rw [lnsR_cons (by omega), fy_lfT h]
  congr 1
  · unfold lfT
    rw [ByteArray.extract_append_eq_left rfl]
  · congr 1
    unfold lfT
    rw [← ByteArray.append_assoc]
    exact ByteArray.extract_append_eq_right (by rw [ByteArray.size_append]; omega) (by rw [ByteArray.size_append])
/-- Lines, each with its feed, ahead of a text. -/
def lfJ : List ByteArray → ByteArray → ByteArray
  | [], r => r
  | a :: l, r => lfT a (lfJ l r)
theorem lnsR_lfJ : ∀ (l : List ByteArray) (r : ByteArray), (∀ a ∈ l, NoLf a) → lnsR (lfJ l r) = l ++ lnsR r
  | [], r, _ => rfl
  | a :: l, r, h => by
    show lnsR (lfT a (lfJ l r)) = _
    rw [lnsR_lfT (h a (by simp)), lnsR_lfJ l r (fun x hx => h x (by simp [hx]))]
    rfl
/-- The first line that can't stand is told, whatever stands behind it. -/
theorem apAll_first : ∀ (ls : List ByteArray) (n0 : Nat) (st : Nat × Ap) {n : Nat}, apAll ls n0 st = .error n → n0 < n ∧ n ≤ n0 + ls.length ∧ ∀ more, apAll (ls.take (n - n0) ++ more) n0 st = .error n
  | [], n0, st, n, h => by simp only [apAll] at h; cases h
  | l :: ls, n0, st, n, h => by
    simp only [apAll] at h
    cases hw : wdsL l 0 with
    | nil =>
      rw [hw] at h
      obtain ⟨h1, h2, h3⟩ := apAll_first ls (n0 + 1) st h
      refine ⟨by omega, by simp only [List.length_cons]; omega, fun more => ?_⟩
      rw [show n - n0 = (n - (n0 + 1)) + 1 by omega, List.take_succ_cons, List.cons_append]
      simp only [apAll, hw]
      exact h3 more
    | cons w ws =>
      rw [hw] at h
      simp only at h
      cases ha : apLine st w ws with
      | none =>
        rw [ha] at h
        injection h with h
        subst h
        refine ⟨by omega, by simp only [List.length_cons]; omega, fun more => ?_⟩
        rw [show n0 + 1 - n0 = 0 + 1 by omega, List.take_succ_cons, List.cons_append]
        simp only [apAll, hw, ha]
      | some st' =>
        rw [ha] at h
        obtain ⟨h1, h2, h3⟩ := apAll_first ls (n0 + 1) st' h
        refine ⟨by omega, by simp only [List.length_cons]; omega, fun more => ?_⟩
        rw [show n - n0 = (n - (n0 + 1)) + 1 by omega, List.take_succ_cons, List.cons_append]
        simp only [apAll, hw, ha]
        exact h3 more
end Go.Proofs.YtccjeipkljdhdaaGreatDoor

namespace Go.Proofs.YtccjeipkljdhdaaGreatDoor
open Go.RowKit
set_option linter.unusedVariables false
set_option linter.unusedSimpArgs false

def bkB (c : UInt8) : Bool := bkA (c.toNat : Int)
/-- The words that bytes say, one word being open. -/
def wLs : List UInt8 → List UInt8 → List (List UInt8)
  | cur, [] => if cur = [] then [] else [cur]
  | cur, c :: r => if bkB c = true then (if cur = [] then wLs [] r else cur :: wLs [] r) else if c.toNat = 59 then (if cur = [] then [] else [cur]) else wLs (cur ++ [c]) r
theorem wLs_blank {c : UInt8} {r : List UInt8} (h : bkB c = true) : wLs [] (c :: r) = wLs [] r := by rw [wLs, if_pos h, if_pos rfl]
theorem wLs_blanks : ∀ (b r : List UInt8), (∀ c ∈ b, bkB c = true) → wLs [] (b ++ r) = wLs [] r
  | [], r, _ => rfl
  | c :: b, r, h => by rw [List.cons_append, wLs_blank (h c (by simp)), wLs_blanks b r (fun x hx => h x (by simp [hx]))]
/-- The bytes of a text from a place on. -/
theorem drop_at {s : ByteArray} {i : Nat} (h : i < s.size) : s.data.toList.drop i = s[i] :: s.data.toList.drop (i + 1) := by
  rw [List.drop_eq_getElem_cons (show i < s.data.toList.length from h)]
  rfl
theorem drop_out {s : ByteArray} {i : Nat} (h : ¬ i < s.size) : s.data.toList.drop i = [] := List.drop_eq_nil_of_le (Nat.le_of_not_lt h)
theorem seg_list (s : ByteArray) (i j : Nat) (hj : j ≤ s.size) : (s.extract i j).data.toList = (s.data.toList.drop i).take (j - i) := by
  rw [ByteArray.data_extract, Array.toList_extract, List.extract_eq_take_drop]
theorem wLs_run {s : ByteArray} : ∀ (n i : Nat) (cur : List UInt8), s.size - i = n → wLs cur (s.data.toList.drop i) = wLs (cur ++ (s.data.toList.drop i).take (fy wrA s i - i)) (s.data.toList.drop (fy wrA s i))
  | 0, i, cur, hn => by
    rw [fy_stop (fun q => by omega), Nat.sub_self, List.take_zero, List.append_nil]
  | n + 1, i, cur, hn => by
    by_cases q : i < s.size ∧ wrA (yb s i) = true
    · have ge := fy_ge wrA s (i + 1)
      have w := q.2
      rw [yb_lt q.1] at w
      have nb : ¬ bkB s[i] = true := by rw [show bkB s[i] = bkA (s[i].toNat : Int) from rfl, wrA_bk w]; decide
      have n59 : ¬ s[i].toNat = 59 := by
        intro e
        unfold wrA at w
        simp only [Bool.and_eq_true, bne_iff_ne, ne_eq] at w
        exact w.2 (by omega)
      rw [fy_go q.1 q.2, drop_at q.1, wLs, if_neg nb, if_neg n59, wLs_run n (i + 1) (cur ++ [s[i]]) (by omega), List.append_assoc]
      congr 2
      rw [show fy wrA s (i + 1) - i = (fy wrA s (i + 1) - (i + 1)) + 1 by omega, List.take_succ_cons]
      rfl
    · rw [fy_stop q, Nat.sub_self, List.take_zero, List.append_nil]
theorem wLs_skip {s : ByteArray} : ∀ (n i : Nat), s.size - i = n → wLs [] (s.data.toList.drop i) = wLs [] (s.data.toList.drop (fy bkA s i))
  | 0, i, hn => by rw [fy_stop (fun q => by omega)]
  | n + 1, i, hn => by
    by_cases q : i < s.size ∧ bkA (yb s i) = true
    · have w := q.2
      rw [yb_lt q.1] at w
      rw [fy_go q.1 q.2, drop_at q.1, wLs_blank w]
      exact wLs_skip n (i + 1) (by omega)
    · rw [fy_stop q]
theorem not_word {c : Int} (h0 : 0 ≤ c) (nb : ¬ bkA c = true) (nw : ¬ wrA c = true) : c = 59 := by
  unfold wrA at nw
  rw [Bool.eq_false_iff.2 nb] at nw
  simp at nw
  omega
theorem wds_list (s : ByteArray) : ∀ (n i : Nat), s.size - i = n → (wdsL s i).map (fun x => x.data.toList) = wLs [] (s.data.toList.drop i) := by
  intro n
  induction n using Nat.strongRecOn with
  | _ n ih =>
    intro i hn
    rw [wLs_skip _ i rfl]
    have g1 := fy_ge bkA s i
    have o1 := fy_out bkA s i
    rw [wdsL]
    by_cases h : fy bkA s i < s.size ∧ wrA (yb s (fy bkA s i)) = true
    · rw [dif_pos h, List.map_cons]
      have g2 := fy_ge wrA s (fy bkA s i + 1)
      have e2 := fy_go h.1 h.2
      have l2 := fy_le (p := wrA) (s := s) (i := fy bkA s i) (by omega)
      have o2 := fy_out wrA s (fy bkA s i)
      rw [wLs_run _ (fy bkA s i) [] rfl, List.nil_append, ← seg_list s _ _ l2, ih _ (by omega) _ rfl]
      have ne : (s.extract (fy bkA s i) (fy wrA s (fy bkA s i))).data.toList ≠ [] := by
        intro e
        have := congrArg List.length e
        rw [show (s.extract (fy bkA s i) (fy wrA s (fy bkA s i))).data.toList.length = (s.extract (fy bkA s i) (fy wrA s (fy bkA s i))).size from rfl, ByteArray.size_extract] at this
        simp at this
        omega
      generalize (s.extract (fy bkA s i) (fy wrA s (fy bkA s i))).data.toList = W at *
      by_cases q : fy wrA s (fy bkA s i) < s.size
      · rw [drop_at q]
        have nw : ¬ wrA (yb s (fy wrA s (fy bkA s i))) = true := fun z => o2 ⟨q, z⟩
        rw [yb_lt q] at nw
        by_cases b : bkB s[fy wrA s (fy bkA s i)] = true
        · rw [wLs_blank b, wLs, if_pos b, if_neg ne]
        · have c : s[fy wrA s (fy bkA s i)].toNat = 59 := by
            have := not_word (by omega) b nw
            omega
          rw [wLs, if_neg b, if_pos c, if_pos rfl, wLs, if_neg b, if_pos c, if_neg ne]
      · rw [drop_out q, wLs, if_pos rfl, wLs, if_neg ne]
    · rw [dif_neg h]
      by_cases q : fy bkA s i < s.size
      · rw [drop_at q]
        have nb : ¬ bkA (yb s (fy bkA s i)) = true := fun z => o1 ⟨q, z⟩
        have nw : ¬ wrA (yb s (fy bkA s i)) = true := fun z => h ⟨q, z⟩
        rw [yb_lt q] at nb nw
        have c : s[fy bkA s i].toNat = 59 := by
          have := not_word (by omega) nb nw
          omega
        rw [wLs, if_neg (show ¬ bkB s[fy bkA s i] = true from nb), if_pos c, if_pos rfl]
        rfl
      · rw [drop_out q, wLs, if_pos rfl]
        rfl
theorem map_inj_bytes : ∀ {l m : List ByteArray}, l.map (fun x => x.data.toList) = m.map (fun x => x.data.toList) → l = m
  | [], [], _ => rfl
  | [], _ :: _, h => by cases h
  | _ :: _, [], h => by cases h
  | x :: l, y :: m, h => by
    simp only [List.map_cons, List.cons.injEq] at h
    rw [map_inj_bytes h.2, ByteArray.ext (Array.toList_inj.1 h.1)]
end Go.Proofs.YtccjeipkljdhdaaGreatDoor

namespace Go.Proofs.YtccjeipkljdhdaaGreatDoor
open Go.RowKit
set_option linter.unusedVariables false
set_option linter.unusedSimpArgs false

theorem wds_of {s : ByteArray} {l : List ByteArray} (h : wLs [] s.data.toList = l.map fun x => x.data.toList) : wdsL s 0 = l := by
  apply map_inj_bytes
  rw [wds_list s _ 0 rfl, List.drop_zero, h]

def exLn : List ByteArray := [⟨#[110, 97, 109, 101, 115, 32, 65]⟩, ⟨#[99, 117, 114, 115, 32, 69, 85, 82]⟩, ⟨#[112, 111, 111, 108, 32, 53]⟩, ⟨#[104, 111, 114, 105, 122, 111, 110, 32, 49]⟩, ⟨#[99, 101, 108, 108, 115, 32, 48]⟩, ⟨#[115, 108, 111, 116, 115, 32, 48]⟩, ⟨#[115, 116, 97, 99, 107, 32, 50]⟩, ⟨#[100, 97, 121, 32, 49]⟩, ⟨#[32, 32, 111, 98, 115, 32, 65, 32, 49]⟩, ⟨#[32, 32, 99, 111, 110, 115, 116, 32, 53]⟩, ⟨#[32, 32, 109, 117, 108]⟩, ⟨#[32, 32, 102, 108, 111, 119, 32, 69, 85, 82]⟩, ⟨#[32, 32, 101, 110, 100]⟩]
def exT : ByteArray := ⟨#[110, 97, 109, 101, 115, 32, 65, 10, 99, 117, 114, 115, 32, 69, 85, 82, 10, 112, 111, 111, 108, 32, 53, 10, 104, 111, 114, 105, 122, 111, 110, 32, 49, 10, 99, 101, 108, 108, 115, 32, 48, 10, 115, 108, 111, 116, 115, 32, 48, 10, 115, 116, 97, 99, 107, 32, 50, 10, 100, 97, 121, 32, 49, 10, 32, 32, 111, 98, 115, 32, 65, 32, 49, 10, 32, 32, 99, 111, 110, 115, 116, 32, 53, 10, 32, 32, 109, 117, 108, 10, 32, 32, 102, 108, 111, 119, 32, 69, 85, 82, 10, 32, 32, 101, 110, 100, 10]⟩
def exA : Ap := ⟨[⟨#[65]⟩], [⟨#[69, 85, 82]⟩], [5], 1, 0, 0, 2, [(1, [⟨3, 0, 1⟩, ⟨1, 0, 0⟩, ⟨11, 0, 0⟩, ⟨28, 0, 0⟩, ⟨0, 0, 0⟩])]⟩
theorem exW0 : wdsL ⟨#[110, 97, 109, 101, 115, 32, 65]⟩ 0 = [⟨#[110, 97, 109, 101, 115]⟩, ⟨#[65]⟩] := wds_of (by decide)
theorem exW1 : wdsL ⟨#[99, 117, 114, 115, 32, 69, 85, 82]⟩ 0 = [⟨#[99, 117, 114, 115]⟩, ⟨#[69, 85, 82]⟩] := wds_of (by decide)
theorem exW2 : wdsL ⟨#[112, 111, 111, 108, 32, 53]⟩ 0 = [⟨#[112, 111, 111, 108]⟩, ⟨#[53]⟩] := wds_of (by decide)
theorem exW3 : wdsL ⟨#[104, 111, 114, 105, 122, 111, 110, 32, 49]⟩ 0 = [⟨#[104, 111, 114, 105, 122, 111, 110]⟩, ⟨#[49]⟩] := wds_of (by decide)
theorem exW4 : wdsL ⟨#[99, 101, 108, 108, 115, 32, 48]⟩ 0 = [⟨#[99, 101, 108, 108, 115]⟩, ⟨#[48]⟩] := wds_of (by decide)
theorem exW5 : wdsL ⟨#[115, 108, 111, 116, 115, 32, 48]⟩ 0 = [⟨#[115, 108, 111, 116, 115]⟩, ⟨#[48]⟩] := wds_of (by decide)
theorem exW6 : wdsL ⟨#[115, 116, 97, 99, 107, 32, 50]⟩ 0 = [⟨#[115, 116, 97, 99, 107]⟩, ⟨#[50]⟩] := wds_of (by decide)
theorem exW7 : wdsL ⟨#[100, 97, 121, 32, 49]⟩ 0 = [⟨#[100, 97, 121]⟩, ⟨#[49]⟩] := wds_of (by decide)
theorem exW8 : wdsL ⟨#[32, 32, 111, 98, 115, 32, 65, 32, 49]⟩ 0 = [⟨#[111, 98, 115]⟩, ⟨#[65]⟩, ⟨#[49]⟩] := wds_of (by decide)
theorem exW9 : wdsL ⟨#[32, 32, 99, 111, 110, 115, 116, 32, 53]⟩ 0 = [⟨#[99, 111, 110, 115, 116]⟩, ⟨#[53]⟩] := wds_of (by decide)
theorem exW10 : wdsL ⟨#[32, 32, 109, 117, 108]⟩ 0 = [⟨#[109, 117, 108]⟩] := wds_of (by decide)
theorem exW11 : wdsL ⟨#[32, 32, 102, 108, 111, 119, 32, 69, 85, 82]⟩ 0 = [⟨#[102, 108, 111, 119]⟩, ⟨#[69, 85, 82]⟩] := wds_of (by decide)
theorem exW12 : wdsL ⟨#[32, 32, 101, 110, 100]⟩ 0 = [⟨#[101, 110, 100]⟩] := wds_of (by decide)
theorem noLf_of {a : ByteArray} (h : ∀ c ∈ a.data.toList, c ≠ 10) : NoLf a := by
  intro i hi e
  rw [yb_lt hi] at e
  have m : a[i] ∈ a.data.toList := by
    show a.data[i] ∈ a.data.toList
    exact Array.getElem_mem_toList _
  exact h _ m (by apply UInt8.toNat_inj.1; simpa using (by omega : a[i].toNat = 10))
theorem exLn_noLf : ∀ a ∈ exLn, NoLf a := by
  have : ∀ a ∈ exLn, ∀ c ∈ a.data.toList, c ≠ 10 := by decide
  exact fun a ha => noLf_of (this a ha)
theorem lfT_list (a r : ByteArray) : (lfT a r).data.toList = a.data.toList ++ 10 :: r.data.toList := by
  unfold lfT
  rw [ByteArray.data_append, ByteArray.data_append]
  simp
theorem lfJ_list : ∀ (l : List ByteArray) (r : ByteArray), (lfJ l r).data.toList = (l.flatMap fun a => a.data.toList ++ [10]) ++ r.data.toList
  | [], r => by simp [lfJ]
  | a :: l, r => by
    show (lfT a (lfJ l r)).data.toList = _
    rw [lfT_list, lfJ_list l r]
    simp
theorem bytes_list {a b : ByteArray} (h : a.data.toList = b.data.toList) : a = b := ByteArray.ext (Array.toList_inj.1 h)
theorem exT_lf : exT = lfJ exLn ⟨#[]⟩ := by
  apply bytes_list
  rw [lfJ_list]
  rfl
theorem exT_lns : lnsR exT = exLn := by
  rw [exT_lf, lnsR_lfJ _ _ exLn_noLf, lnsR_nil (by decide), List.append_nil]

theorem exS0 : apLine (0, (⟨[], [], [], 0, 0, 0, 0, []⟩ : Ap)) ⟨#[110, 97, 109, 101, 115]⟩ [⟨#[65]⟩] = some (1, (⟨[⟨#[65]⟩], [], [], 0, 0, 0, 0, []⟩ : Ap)) := by kernel_rfl
theorem exS1 : apLine (1, (⟨[⟨#[65]⟩], [], [], 0, 0, 0, 0, []⟩ : Ap)) ⟨#[99, 117, 114, 115]⟩ [⟨#[69, 85, 82]⟩] = some (2, (⟨[⟨#[65]⟩], [⟨#[69, 85, 82]⟩], [], 0, 0, 0, 0, []⟩ : Ap)) := by kernel_rfl
theorem exS2 : apLine (2, (⟨[⟨#[65]⟩], [⟨#[69, 85, 82]⟩], [], 0, 0, 0, 0, []⟩ : Ap)) ⟨#[112, 111, 111, 108]⟩ [⟨#[53]⟩] = some (3, (⟨[⟨#[65]⟩], [⟨#[69, 85, 82]⟩], [5], 0, 0, 0, 0, []⟩ : Ap)) := by kernel_rfl
theorem exS3 : apLine (3, (⟨[⟨#[65]⟩], [⟨#[69, 85, 82]⟩], [5], 0, 0, 0, 0, []⟩ : Ap)) ⟨#[104, 111, 114, 105, 122, 111, 110]⟩ [⟨#[49]⟩] = some (4, (⟨[⟨#[65]⟩], [⟨#[69, 85, 82]⟩], [5], 1, 0, 0, 0, []⟩ : Ap)) := by kernel_rfl
theorem exS4 : apLine (4, (⟨[⟨#[65]⟩], [⟨#[69, 85, 82]⟩], [5], 1, 0, 0, 0, []⟩ : Ap)) ⟨#[99, 101, 108, 108, 115]⟩ [⟨#[48]⟩] = some (5, (⟨[⟨#[65]⟩], [⟨#[69, 85, 82]⟩], [5], 1, 0, 0, 0, []⟩ : Ap)) := by kernel_rfl
theorem exS5 : apLine (5, (⟨[⟨#[65]⟩], [⟨#[69, 85, 82]⟩], [5], 1, 0, 0, 0, []⟩ : Ap)) ⟨#[115, 108, 111, 116, 115]⟩ [⟨#[48]⟩] = some (6, (⟨[⟨#[65]⟩], [⟨#[69, 85, 82]⟩], [5], 1, 0, 0, 0, []⟩ : Ap)) := by kernel_rfl
theorem exS6 : apLine (6, (⟨[⟨#[65]⟩], [⟨#[69, 85, 82]⟩], [5], 1, 0, 0, 0, []⟩ : Ap)) ⟨#[115, 116, 97, 99, 107]⟩ [⟨#[50]⟩] = some (7, (⟨[⟨#[65]⟩], [⟨#[69, 85, 82]⟩], [5], 1, 0, 0, 2, []⟩ : Ap)) := by kernel_rfl
theorem exS7 : apLine (7, (⟨[⟨#[65]⟩], [⟨#[69, 85, 82]⟩], [5], 1, 0, 0, 2, []⟩ : Ap)) ⟨#[100, 97, 121]⟩ [⟨#[49]⟩] = some (7, (⟨[⟨#[65]⟩], [⟨#[69, 85, 82]⟩], [5], 1, 0, 0, 2, [(1, [])]⟩ : Ap)) := by kernel_rfl
theorem exS8 : apLine (7, (⟨[⟨#[65]⟩], [⟨#[69, 85, 82]⟩], [5], 1, 0, 0, 2, [(1, [])]⟩ : Ap)) ⟨#[111, 98, 115]⟩ [⟨#[65]⟩, ⟨#[49]⟩] = some (7, (⟨[⟨#[65]⟩], [⟨#[69, 85, 82]⟩], [5], 1, 0, 0, 2, [(1, [⟨3, 0, 1⟩])]⟩ : Ap)) := by kernel_rfl
theorem exS9 : apLine (7, (⟨[⟨#[65]⟩], [⟨#[69, 85, 82]⟩], [5], 1, 0, 0, 2, [(1, [⟨3, 0, 1⟩])]⟩ : Ap)) ⟨#[99, 111, 110, 115, 116]⟩ [⟨#[53]⟩] = some (7, (⟨[⟨#[65]⟩], [⟨#[69, 85, 82]⟩], [5], 1, 0, 0, 2, [(1, [⟨3, 0, 1⟩, ⟨1, 0, 0⟩])]⟩ : Ap)) := by kernel_rfl
theorem exS10 : apLine (7, (⟨[⟨#[65]⟩], [⟨#[69, 85, 82]⟩], [5], 1, 0, 0, 2, [(1, [⟨3, 0, 1⟩, ⟨1, 0, 0⟩])]⟩ : Ap)) ⟨#[109, 117, 108]⟩ [] = some (7, (⟨[⟨#[65]⟩], [⟨#[69, 85, 82]⟩], [5], 1, 0, 0, 2, [(1, [⟨3, 0, 1⟩, ⟨1, 0, 0⟩, ⟨11, 0, 0⟩])]⟩ : Ap)) := by kernel_rfl
theorem exS11 : apLine (7, (⟨[⟨#[65]⟩], [⟨#[69, 85, 82]⟩], [5], 1, 0, 0, 2, [(1, [⟨3, 0, 1⟩, ⟨1, 0, 0⟩, ⟨11, 0, 0⟩])]⟩ : Ap)) ⟨#[102, 108, 111, 119]⟩ [⟨#[69, 85, 82]⟩] = some (7, (⟨[⟨#[65]⟩], [⟨#[69, 85, 82]⟩], [5], 1, 0, 0, 2, [(1, [⟨3, 0, 1⟩, ⟨1, 0, 0⟩, ⟨11, 0, 0⟩, ⟨28, 0, 0⟩])]⟩ : Ap)) := by kernel_rfl
theorem exS12 : apLine (7, (⟨[⟨#[65]⟩], [⟨#[69, 85, 82]⟩], [5], 1, 0, 0, 2, [(1, [⟨3, 0, 1⟩, ⟨1, 0, 0⟩, ⟨11, 0, 0⟩, ⟨28, 0, 0⟩])]⟩ : Ap)) ⟨#[101, 110, 100]⟩ [] = some (7, (⟨[⟨#[65]⟩], [⟨#[69, 85, 82]⟩], [5], 1, 0, 0, 2, [(1, [⟨3, 0, 1⟩, ⟨1, 0, 0⟩, ⟨11, 0, 0⟩, ⟨28, 0, 0⟩, ⟨0, 0, 0⟩])]⟩ : Ap)) := by kernel_rfl
theorem exW13 : wdsL ⟨#[32, 32, 101, 110, 100, 115]⟩ 0 = [⟨#[101, 110, 100, 115]⟩] := wds_of (by decide)
theorem exS13 : apLine (7, (⟨[⟨#[65]⟩], [⟨#[69, 85, 82]⟩], [5], 1, 0, 0, 2, [(1, [⟨3, 0, 1⟩, ⟨1, 0, 0⟩, ⟨11, 0, 0⟩, ⟨28, 0, 0⟩])]⟩ : Ap)) ⟨#[101, 110, 100, 115]⟩ [] = none := by kernel_rfl
def exL2 : List ByteArray := [⟨#[110, 97, 109, 101, 115, 32, 65]⟩, ⟨#[99, 117, 114, 115, 32, 69, 85, 82]⟩, ⟨#[112, 111, 111, 108, 32, 53]⟩, ⟨#[104, 111, 114, 105, 122, 111, 110, 32, 49]⟩, ⟨#[99, 101, 108, 108, 115, 32, 48]⟩, ⟨#[115, 108, 111, 116, 115, 32, 48]⟩, ⟨#[115, 116, 97, 99, 107, 32, 50]⟩, ⟨#[100, 97, 121, 32, 49]⟩, ⟨#[32, 32, 111, 98, 115, 32, 65, 32, 49]⟩, ⟨#[32, 32, 99, 111, 110, 115, 116, 32, 53]⟩, ⟨#[32, 32, 109, 117, 108]⟩, ⟨#[32, 32, 102, 108, 111, 119, 32, 69, 85, 82]⟩, ⟨#[32, 32, 101, 110, 100, 115]⟩]
def exT2 : ByteArray := ⟨#[110, 97, 109, 101, 115, 32, 65, 10, 99, 117, 114, 115, 32, 69, 85, 82, 10, 112, 111, 111, 108, 32, 53, 10, 104, 111, 114, 105, 122, 111, 110, 32, 49, 10, 99, 101, 108, 108, 115, 32, 48, 10, 115, 108, 111, 116, 115, 32, 48, 10, 115, 116, 97, 99, 107, 32, 50, 10, 100, 97, 121, 32, 49, 10, 32, 32, 111, 98, 115, 32, 65, 32, 49, 10, 32, 32, 99, 111, 110, 115, 116, 32, 53, 10, 32, 32, 109, 117, 108, 10, 32, 32, 102, 108, 111, 119, 32, 69, 85, 82, 10, 32, 32, 101, 110, 100, 115, 10]⟩
theorem exL2_noLf : ∀ a ∈ exL2, NoLf a := by
  have : ∀ a ∈ exL2, ∀ c ∈ a.data.toList, c ≠ 10 := by decide
  exact fun a ha => noLf_of (this a ha)
theorem exT2_lns : lnsR exT2 = exL2 := by
  have e : exT2 = lfJ exL2 ⟨#[]⟩ := by
    apply bytes_list
    rw [lfJ_list]
    rfl
  rw [e, lnsR_lfJ _ _ exL2_noLf, lnsR_nil (by decide), List.append_nil]
theorem exAll : apAll exLn 0 (0, Ap.zero) = .ok (13, (7, exA)) := by
  unfold exLn Ap.zero
  simp only [apAll, exW0, exW1, exW2, exW3, exW4, exW5, exW6, exW7, exW8, exW9, exW10, exW11, exW12, exS0, exS1, exS2, exS3, exS4, exS5, exS6, exS7, exS8, exS9, exS10, exS11, exS12]
  rfl
theorem exAll2 : apAll exL2 0 (0, Ap.zero) = .error 13 := by
  unfold exL2 Ap.zero
  simp only [apAll, exW0, exW1, exW2, exW3, exW4, exW5, exW6, exW7, exW8, exW9, exW10, exW11, exW13, exS0, exS1, exS2, exS3, exS4, exS5, exS6, exS7, exS8, exS9, exS10, exS11, exS13]
theorem exCan : canP exA.pg := by
  have one : ∀ i, i < 1 → i = 0 := by omega
  refine ⟨by decide, ⟨by decide, by kernel_rfl, fun i h => ?_, by decide, by kernel_rfl, fun i h => ?_, by decide, fun i h => ?_⟩, ⟨fun i hi => ?_, by decide⟩, fun i hi => ?_, by kernel_rfl⟩
  · simp [Ap.pg, exA] at h
  · simp [Ap.pg, exA] at h
  · simp [Ap.pg, exA] at h
  · obtain rfl := one i hi
    exact ⟨by decide, by decide⟩
  · obtain rfl := one i hi
    refine ⟨by decide, fun n hn => ?_⟩
    have hn5 : n < 5 := hn
    rcases (show n = 0 ∨ n = 1 ∨ n = 2 ∨ n = 3 ∨ n = 4 by omega) with rfl | rfl | rfl | rfl | rfl
    all_goals
      refine ⟨by decide, by first | decide | (unfold In.okP; decide), by first | decide | (unfold inB; decide) | (unfold inB; simp [Ap.pg, exA])⟩
theorem exOut : outA exT = (exA, 0, 0) := by
  unfold outA
  rw [if_neg (by decide), exT_lns, exAll]
  simp only
  rw [if_pos (by decide), if_pos exCan]
theorem exOut2 : outA exT2 = (Ap.zero, 13, 131) := by
  unfold outA
  rw [if_neg (by decide), exT2_lns, exAll2]
  rfl
theorem exE : exT.extract 0 103 ++ ⟨#[101, 110, 100, 115, 10]⟩ = exT2 := by
  apply bytes_list
  rw [ByteArray.data_append, ByteArray.data_extract]
  decide
end Go.Proofs.YtccjeipkljdhdaaGreatDoor

namespace Go.Proofs.YtccjeipkljdhdaaGreatDoor
open Go.RowKit
set_option linter.unusedVariables false
set_option linter.unusedSimpArgs false

theorem GlA.laterH {w W : World} (h : GlA w) (b : Below w.heap.size w W) : GlA W := ⟨pows_below h.pw b, ev_below h.ev b, h.rw_.below b, h.md.later b, h.ln.later b⟩
theorem lnG_of {w : World} (h : LnR w) : LnG w := ⟨h.1, fun k hk => by
  have := (h.2 k hk).1
  rwa [show hdA k = lnA k from rfl] at this⟩
theorem six_blk (w : World) (o1 o2 o3 o4 o5 o6 : Obj) : ((((((w.alloc o1).alloc o2).alloc o3).alloc o4).alloc o5).alloc o6).heap[w.heap.size]? = some o1 ∧ ((((((w.alloc o1).alloc o2).alloc o3).alloc o4).alloc o5).alloc o6).heap[w.heap.size + 1]? = some o2 ∧ ((((((w.alloc o1).alloc o2).alloc o3).alloc o4).alloc o5).alloc o6).heap[w.heap.size + 1 + 1]? = some o3 ∧ ((((((w.alloc o1).alloc o2).alloc o3).alloc o4).alloc o5).alloc o6).heap[w.heap.size + 1 + 1 + 1]? = some o4 ∧ ((((((w.alloc o1).alloc o2).alloc o3).alloc o4).alloc o5).alloc o6).heap[w.heap.size + 1 + 1 + 1 + 1]? = some o5 ∧ ((((((w.alloc o1).alloc o2).alloc o3).alloc o4).alloc o5).alloc o6).heap[w.heap.size + 1 + 1 + 1 + 1 + 1]? = some o6 := by
  have e : ((((((w.alloc o1).alloc o2).alloc o3).alloc o4).alloc o5).alloc o6).heap = (((((w.heap.push o1).push o2).push o3).push o4).push o5).push o6 := rfl
  rw [e]
  refine ⟨?_, ?_, ?_, ?_, ?_, ?_⟩
  all_goals
    simp only [Array.getElem?_push, Array.size_push]
    repeat (first | rw [if_pos (by omega)] | rw [if_neg (by omega)])
    try (rw [if_pos trivial])
theorem sr_one {W : World} {b : Nat} {s : ByteArray} {t : TypeId} (h : BkP W b #[.string s] t) (hs : s.size ≤ 16777216) : SR W (some ⟨b, 0, none⟩) 1 1 [s] :=
  ⟨⟨(fun e => by cases e), Nat.le_refl _, by unfold maxLen; omega⟩, rfl, by omega, (fun x hx => by rw [List.mem_singleton.1 hx]; omega), .inr ⟨b, 0, rfl, h.lt, fun i hi j hj => by
    obtain rfl : i = 0 := by omega
    obtain rfl : j = 0 := by omega
    exact h.cell 0⟩⟩
theorem nr_one {W : World} {b : Nat} {n : Int} {t : TypeId} (h : BkP W b #[.int .i64 n] t) (hs : inR n) : NR W (some ⟨b, 0, none⟩) 1 1 [n] :=
  ⟨⟨(fun e => by cases e), Nat.le_refl _, by unfold maxLen; omega⟩, rfl, by omega, (fun x hx => by rw [List.mem_singleton.1 hx]; exact inR_i64Q hs), .inr ⟨b, 0, rfl, h.lt, fun i hi j hj => by
    obtain rfl : i = 0 := by omega
    obtain rfl : j = 0 := by omega
    exact h.cell 0⟩⟩
def exC : List In := [⟨3, 0, 1⟩, ⟨1, 0, 0⟩, ⟨11, 0, 0⟩, ⟨28, 0, 0⟩, ⟨0, 0, 0⟩]
theorem ir_ex {W : World} {b : Nat} {t : TypeId} (h : BkP W b #[.int .i64 3, .int .i64 0, .int .i64 1, .int .i64 1, .int .i64 0, .int .i64 0, .int .i64 11, .int .i64 0, .int .i64 0, .int .i64 28, .int .i64 0, .int .i64 0, .int .i64 0, .int .i64 0, .int .i64 0] t) : IR W (some ⟨b, 0, none⟩) 5 5 exC :=
  ⟨⟨(fun e => by cases e), Nat.le_refl _, by unfold maxLen; omega⟩, rfl, by omega, (fun x hx => okP_i64Q (by
    have : ∀ x ∈ exC, x.okP := by decide
    exact this x hx)), .inr ⟨b, 0, rfl, h.lt, fun i hi j hj => by
    rw [Nat.zero_add]
    rw [h.cell]
    have hi' : i = 0 ∨ i = 1 ∨ i = 2 ∨ i = 3 ∨ i = 4 := by omega
    have hj' : j = 0 ∨ j = 1 ∨ j = 2 := by omega
    rcases hi' with rfl | rfl | rfl | rfl | rfl <;> rcases hj' with rfl | rfl | rfl <;> rfl⟩⟩
/-- The example in memory. -/
def exP (b : Nat) : Pg := ⟨some ⟨b, 0, none⟩, 1, [⟨#[65]⟩], some ⟨b + 1, 0, none⟩, 1, [⟨#[69, 85, 82]⟩], some ⟨b + 1 + 1, 0, none⟩, 1, [5], 1, 0, 0, 2, some ⟨b + 1 + 1 + 1 + 1 + 1, 0, none⟩, 1, [⟨1, some ⟨b + 1 + 1 + 1 + 1, 0, none⟩, 5, exC⟩]⟩
theorem exP_key (b : Nat) : (exP b).key = exA.pg.key := rfl
theorem exP_txt (b : Nat) : (⟨(txtP (exP b)).toArray⟩ : ByteArray) = exT := by kernel_rfl
theorem exP_can (b : Nat) : canP (exP b) := can_key1Q (exP_key b).symm exCan
theorem exP_pv {W : World} {b : Nat} {t1 t2 t3 t4 t5 : TypeId} (h1 : BkP W b #[.string ⟨#[65]⟩] t1) (h2 : BkP W (b + 1) #[.string ⟨#[69, 85, 82]⟩] t2) (h3 : BkP W (b + 1 + 1) #[.int .i64 5] t3)
    (h5 : BkP W (b + 1 + 1 + 1 + 1) #[.int .i64 3, .int .i64 0, .int .i64 1, .int .i64 1, .int .i64 0, .int .i64 0, .int .i64 11, .int .i64 0, .int .i64 0, .int .i64 28, .int .i64 0, .int .i64 0, .int .i64 0, .int .i64 0, .int .i64 0] t4) (h6 : BkP W (b + 1 + 1 + 1 + 1 + 1) #[.int .i64 1, .slice (some ⟨b + 1 + 1 + 1 + 1, 0, none⟩) 5 5] t5) : PV W (exP b) :=
  ⟨sr_one h1 (by decide), sr_one h2 (by decide), nr_one h3 (by unfold inR; omega), inR_i64Q (by unfold inR exP; simp), inR_i64Q (by unfold inR exP; simp), inR_i64Q (by unfold inR exP; simp), inR_i64Q (by unfold inR exP; simp),
    ⟨⟨(fun e => by cases e), Nat.le_refl _, by show 1 ≤ maxLen; unfold maxLen; omega⟩, rfl, by show 1 ≤ _; omega, (fun s hs => by
      have : s = ⟨1, some ⟨b + 1 + 1 + 1 + 1, 0, none⟩, 5, exC⟩ := List.mem_singleton.1 hs
      subst this
      exact ⟨inR_i64Q (by unfold inR; simp), ir_ex h5⟩), .inr ⟨_, 0, rfl, h6.lt, fun i hi j hj => by
      have hi1 : i < 1 := hi
      obtain rfl : i = 0 := by omega
      rw [Nat.zero_add]
      rw [h6.cell]
      have hj' : j = 0 ∨ j = 1 := by omega
      rcases hj' with rfl | rfl <;> rfl⟩⟩⟩
set_option maxRecDepth 100000 in
set_option maxHeartbeats 4000000 in
theorem heads_any {w : World} (hG : GlA w) : Calls Tryz.prog 6 #[] w fun e w' => e = .returned (.bool true) ∧ Below w.heap.size w w' := by
  obtain ⟨W6, hW6⟩ : ∃ y, ((((((w.alloc (.cells #[.string ⟨#[65]⟩] 9)).alloc (.cells #[.string ⟨#[69, 85, 82]⟩] 9)).alloc (.cells #[.int .i64 5] 3)).alloc (.cells #[.slice (some ⟨w.heap.size, 0, none⟩) 1 1, .slice (some ⟨w.heap.size + 1, 0, none⟩) 1 1, .slice (some ⟨w.heap.size + 1 + 1, 0, none⟩) 1 1, .int .i64 1, .int .i64 0, .int .i64 0, .int .i64 2, .slice (some ⟨w.heap.size + 1 + 1 + 1 + 1 + 1, 0, none⟩) 1 1] 27)).alloc (.cells #[.int .i64 3, .int .i64 0, .int .i64 1, .int .i64 1, .int .i64 0, .int .i64 0, .int .i64 11, .int .i64 0, .int .i64 0, .int .i64 28, .int .i64 0, .int .i64 0, .int .i64 0, .int .i64 0, .int .i64 0] 42)).alloc (.cells #[.int .i64 1, .slice (some ⟨w.heap.size + 1 + 1 + 1 + 1, 0, none⟩) 5 5] 39)) = y := ⟨_, rfl⟩
  obtain ⟨b1, b2, b3, b4, b5, b6⟩ := six_blk w (.cells #[.string ⟨#[65]⟩] 9) (.cells #[.string ⟨#[69, 85, 82]⟩] 9) (.cells #[.int .i64 5] 3) (.cells #[.slice (some ⟨w.heap.size, 0, none⟩) 1 1, .slice (some ⟨w.heap.size + 1, 0, none⟩) 1 1, .slice (some ⟨w.heap.size + 1 + 1, 0, none⟩) 1 1, .int .i64 1, .int .i64 0, .int .i64 0, .int .i64 2, .slice (some ⟨w.heap.size + 1 + 1 + 1 + 1 + 1, 0, none⟩) 1 1] 27) (.cells #[.int .i64 3, .int .i64 0, .int .i64 1, .int .i64 1, .int .i64 0, .int .i64 0, .int .i64 11, .int .i64 0, .int .i64 0, .int .i64 28, .int .i64 0, .int .i64 0, .int .i64 0, .int .i64 0, .int .i64 0] 42) (.cells #[.int .i64 1, .slice (some ⟨w.heap.size + 1 + 1 + 1 + 1, 0, none⟩) 5 5] 39)
  rw [hW6] at b1 b2 b3 b4 b5 b6
  have A6 := Lib.hid (p := Below w.heap.size w W6) (by
    rw [← hW6]
    exact ((((((Below.refl w.heap.size w).alloc (Nat.le_refl _) _).alloc (by simp) _).alloc (by simp; omega) _).alloc (by simp; omega) _).alloc (by simp; omega) _).alloc (by simp; omega) _)
  have Z6 := Lib.hid (p := W6.heap.size = w.heap.size + 6) (by rw [← hW6]; simp)
  have HW6 := Lib.hid hW6
  clear hW6
  have K46 : BkP W6 (w.heap.size + 1 + 1 + 1) _ _ := b4
  have PV6 := Lib.hid (exP_pv b1 b2 b3 b5 b6)
  have HG := Lib.hid hG
  clear b1 b2 b3 b4 b5 b6 hG
  have K46h := Lib.hid K46
  have KP := Lib.hid (p := Calls Tryz.prog 9 #[(exP w.heap.size).agg] W6 fun e w' => e = .returned (.tuple #[.string exT, .int .i64 0]) ∧ Below W6.heap.size W6 w') ((print_any PV6.out (HG.out.laterH A6.out).rw_ (HG.out.laterH A6.out).pw (HG.out.laterH A6.out).md (lnG_of (HG.out.laterH A6.out).ln)).mono (fun e w' ⟨h1, h2⟩ => ⟨by rw [h1, if_pos (exP_can _), if_pos (exP_can _), exP_txt], h2⟩))
  have KR := Lib.hid (p := ∀ W, Below w.heap.size w W → ∀ s, Calls Tryz.prog 7 #[.string s] W fun e w' => PaE s W e w') (fun W b s => parse_any s (fun W' b' => HG.out.laterH (b.trans (b'.mono b.size))))
  have k0 := K46.cell 0
  have k1 := K46.cell 1
  have k2 := K46.cell 2
  have k3 := K46.cell 3
  have k4 := K46.cell 4
  have k5 := K46.cell 5
  have k6 := K46.cell 6
  have k7 := K46.cell 7
  simp at k0 k1 k2 k3 k4 k5 k6 k7
  clear K46
  go_enter Tryz.func6, Tryz.ntmps6
  go_upto_region 3 with (fail)
  rw [HW6.out]
  go_upto_region 5 with (first
    | (go_at_call 9; refine KP.out.mono ?_; rintro e w1 ⟨rfl, h1⟩; have B1 := Lib.hid (A6.out.trans (h1.mono A6.out.size)); have Y1 := Lib.hid h1; clear h1)
    | (go_at_call 7; refine (KR.out w1 B1.out exT).mono ?_; rintro e w2 ⟨⟨a0, b0, c0, a1, b1, c1, a2, b2, c2, n0, n1, n2, n3, a3, b3, c3⟩, rfl, hpv, hkey, hb⟩; rw [exOut] at hkey ⊢; simp only [Pg.agg]; have P2 := Lib.hid hpv; have Q2 := Lib.hid hkey; have B2 := Lib.hid (B1.out.trans (hb.mono B1.out.size)); have Y2 := Lib.hid (Y1.out.trans (hb.mono Y1.out.size)); have A2 := Lib.hid (B2.out.trans ((allocBP w2 (.cells #[.slice a0 c0.length b0, .slice a1 c1.length b1, .slice a2 c2.length b2, .int .i64 n0, .int .i64 n1, .int .i64 n2, .int .i64 n3, .slice a3 c3.length b3] 27)).mono B2.out.size)); clear hpv hkey hb))
  clear k0 k1 k2 k3 k4 k5 k6 k7
  have KR2 := Lib.hid (p := ∀ W, Below w.heap.size w W → Calls Tryz.prog 7 #[.string (exT.extract 0 103 ++ ⟨#[101, 110, 100, 115, 10]⟩)] W fun e w' => PaE exT2 W e w') (fun W b => by rw [exE]; exact KR.out W b exT2)
  go_upto_region 6 with (go_at_call 7; refine (KR2.out _ A2.out).mono ?_; rintro e w3 ⟨⟨d0, e0, f0, d1, e1, f1, d2, e2, f2, m0, m1, m2, m3, d3, e3, f3⟩, rfl, _, _, hb⟩; rw [exOut2]; simp only [Pg.agg]; have B3 := Lib.hid (A2.out.trans (hb.mono A2.out.size)); have H3 := Lib.hid hb; clear hb)
  have AP := Lib.hid (allocBP w2 (.cells #[.slice a0 c0.length b0, .slice a1 c1.length b1, .slice a2 c2.length b2, .int .i64 n0, .int .i64 n1, .int .i64 n2, .int .i64 n3, .slice a3 c3.length b3] 27))
  have AQ := Lib.hid (allocBP w3 (.cells #[.slice d0 f0.length e0, .slice d1 f1.length e1, .slice d2 f2.length e2, .int .i64 m0, .int .i64 m1, .int .i64 m2, .int .i64 m3, .slice d3 f3.length e3] 27))
  have X2 := Lib.hid (p := Below w2.heap.size w2 (w3.alloc (.cells #[.slice d0 f0.length e0, .slice d1 f1.length e1, .slice d2 f2.length e2, .int .i64 m0, .int .i64 m1, .int .i64 m2, .int .i64 m3, .slice d3 f3.length e3] 27))) (AP.out.trans ((H3.out.trans (AQ.out.mono H3.out.size)).mono AP.out.size))
  have X6 := Lib.hid (p := Below W6.heap.size W6 (w3.alloc (.cells #[.slice d0 f0.length e0, .slice d1 f1.length e1, .slice d2 f2.length e2, .int .i64 m0, .int .i64 m1, .int .i64 m2, .int .i64 m3, .slice d3 f3.length e3] 27))) (Y2.out.trans (X2.out.mono Y2.out.size))
  have BW := Lib.hid (A6.out.trans (X6.out.mono A6.out.size))
  have bp := (H3.out.trans (AQ.out.mono H3.out.size)).block w2.heap.size (by simp) |>.trans (heapN w2 (.cells #[.slice a0 c0.length b0, .slice a1 c1.length b1, .slice a2 c2.length b2, .int .i64 n0, .int .i64 n1, .int .i64 n2, .int .i64 n3, .slice a3 c3.length b3] 27))
  obtain ⟨x0, x1, x2, x3, x4, x5, x6, x7⟩ := box_8Q bp
  obtain ⟨y0, y1, y2, y3, y4, y5, y6, y7⟩ := box_8Q ((X6.out.block (w.heap.size + 1 + 1 + 1) (by have := Z6.out; omega)).trans K46h.out)
  have KS := Lib.hid (same13_any (w := w3.alloc (.cells #[.slice d0 f0.length e0, .slice d1 f1.length e1, .slice d2 f2.length e2, .int .i64 m0, .int .i64 m1, .int .i64 m2, .int .i64 m3, .slice d3 f3.length e3] 27)) (PV6.out.later X6.out) (P2.out.later X2.out) (Q2.out.trans (exP_key _).symm))
  obtain ⟨w4, hw4⟩ : ∃ y, w3.alloc (.cells #[.slice d0 f0.length e0, .slice d1 f1.length e1, .slice d2 f2.length e2, .int .i64 m0, .int .i64 m1, .int .i64 m2, .int .i64 m3, .slice d3 f3.length e3] 27) = y := ⟨_, rfl⟩
  rw [hw4] at KS BW x0 x1 x2 x3 x4 x5 x6 x7 y0 y1 y2 y3 y4 y5 y6 y7
  rw [hw4]
  clear hw4 bp
  have es : exT.toList = [110, 97, 109, 101, 115, 32, 65, 10, 99, 117, 114, 115, 32, 69, 85, 82, 10, 112, 111, 111, 108, 32, 53, 10, 104, 111, 114, 105, 122, 111, 110, 32, 49, 10, 99, 101, 108, 108, 115, 32, 48, 10, 115, 108, 111, 116, 115, 32, 48, 10, 115, 116, 97, 99, 107, 32, 50, 10, 100, 97, 121, 32, 49, 10, 32, 32, 111, 98, 115, 32, 65, 32, 49, 10, 32, 32, 99, 111, 110, 115, 116, 32, 53, 10, 32, 32, 109, 117, 108, 10, 32, 32, 102, 108, 111, 119, 32, 69, 85, 82, 10, 32, 32, 101, 110, 100, 10] := by rw [Lib.toList_data]; rfl
  go_wp2_with (go_at_call 8; refine KS.out.mono ?_; rintro e w5 ⟨rfl, h5⟩; have B5 := Lib.hid h5; clear h5)
  go_ret
  exact ⟨by simp, BW.out.trans (B5.out.mono BW.out.size)⟩
end Go.Proofs.YtccjeipkljdhdaaGreatDoor
