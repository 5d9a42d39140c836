import Derived.Test.YtccjeipkljdhdaaGreatDoorXAY
import Derived.Test.YtccjeipkljdhdaaGreatDoorXAZ
import Derived.Test.YtccjeipkljdhdaaGreatDoorXBA
import Derived.Test.YtccjeipkljdhdaaGreatDoorXBD
namespace Go.Proofs.YtccjeipkljdhdaaGreatDoor
open Go.RowKit
set_option linter.unusedVariables false
set_option linter.unusedSimpArgs false

theorem infoTq : (Tryz.prog.info? 9).map (fun i => (i.zero, i.size, i.bytes)) = some (some (.string ⟨#[]⟩), 1, 16) := by kernel_rfl
/-- A text is appended. -/
theorem wp_stA {ops : Array Oper} {rest : List Oper} {o : Oper} {a : Act} {Q : Exit → Act → World → Prop} (W : World) (B : Nat) (u : ByteArray) (l : List ByteArray) (hgd : o.guard = none) (sl x : Operand)
    (ho : o.op = .call { callee := .builtin .append, args := #[sl, x], argTypes := #[23, 23] }) (v : Value) (hs : a.eval sl = v)
    (hx : a.eval x = .slice (some ⟨W.heap.size, 0, none⟩) 1 1) (hown : OwQ W B v l) (hl : l.length ≤ 1073741824) (hb : B ≤ W.heap.size)
    (h : ∀ v' w', OwQ w' B v' (l ++ [u]) → (W.alloc (.cells #[.string u] 9)).grownBy w' v.ownBlock → wpList Tryz.prog ops Q rest (a.put o.dst v') w') :
    wpList Tryz.prog ops Q (o :: rest) a (W.alloc (.cells #[.string u] 9)) := by
  obtain ⟨i0, hi, hz0, hz1, hz2⟩ := info_parts infoTq
  refine wpList_append_own _ hgd sl x 23 ho B 9 i0 (.string ⟨#[]⟩) 1 16 Tryz.underlying23 hi hz0 hz1 hz2 rfl (by decide) v _ _ hs (World.ownsRow.alloc hown _) ⟨W.heap.size, 0, none⟩ 1 1 [.string u] hx rfl ?_ ?_ (by unfold maxLen; omega) (by omega) (by simp; omega) ?_
  · intro j v hj
    match j, hj with
    | 0, hj => simp at hj; subst hj; simp [Addr.add]
  · intro v hv
    rw [List.mem_singleton.1 hv]; rfl
  · intro v' w' h1 h2 _
    refine h v' w' ?_ h2
    unfold OwQ
    rw [List.length_append, List.map_append]
    exact h1
/-- What stands while a text is split. -/
structure SpI (s : ByteArray) (us : List ByteArray) (at_ i : Nat) : Prop where
  all : us ++ lnsL s at_ = lnsL s 0
  le : at_ ≤ i
  li : i ≤ s.size
  eq : fy lfA s at_ = fy lfA s i
  len : us.length ≤ i
theorem SpI.on {s : ByteArray} {us : List ByteArray} {a i : Nat} (h : SpI s us a i) (hi : i < s.size) (y : yb s i ≠ 10) : SpI s us a (i + 1) :=
  ⟨h.all, by have := h.le; omega, by omega, by rw [h.eq]; exact fy_go hi (by simp [lfA, y]), by have := h.len; omega⟩
theorem SpI.cut {s : ByteArray} {us : List ByteArray} {a i : Nat} (h : SpI s us a i) (hi : i < s.size) (y : yb s i = 10) : SpI s (us ++ [s.extract a i]) (i + 1) (i + 1) := by
  have e : fy lfA s a = i := by rw [h.eq]; exact fy_stop (fun q => by have := q.2; simp [lfA, y] at this)
  have le := h.le
  refine ⟨?_, Nat.le_refl _, by omega, rfl, by have := h.len; simp; omega⟩
  rw [← h.all, lnsL.eq_def s a, dif_pos (by omega), e]
  simp
theorem SpI.fin {s : ByteArray} {us : List ByteArray} {a : Nat} (h : SpI s us a s.size) : lnsL s 0 = if a < s.size then us ++ [s.extract a s.size] else us := by
  have e : fy lfA s a = s.size := by rw [h.eq]; exact fy_stop (fun q => absurd q.1 (by omega))
  rw [← h.all, lnsL.eq_def s a]
  by_cases q : a < s.size
  · rw [dif_pos q, if_pos q, e, lnsL, dif_neg (by omega)]
  · rw [dif_neg q, if_neg q]
    simp
/-- A text's lines, of the call's own. -/
def SpE (w : World) (s : ByteArray) (e : Ending) (w' : World) : Prop := ∃ v, e = .returned v ∧ OwQ w' w.heap.size v (lnsL s 0) ∧ Below w.heap.size w w'
set_option maxRecDepth 100000 in
set_option maxHeartbeats 2000000 in
theorem linesL_any (s : ByteArray) (hs : s.size ≤ 134217728) (w : World) :
    Calls Tryz.prog 11 #[.string s] w fun e w' => SpE w s e w' := by
  have hmax : s.size ≤ maxLen := by unfold maxLen; omega
  go_enter Tryz.func11, Tryz.ntmps11
  go_wp2
  go_loopw [3, 4, 5] (fun v t4 t5 W => ∃ (k a : Nat) (us : List ByteArray), t4 = .int .i64 (a : Int) ∧ t5 = .int .i64 (k : Int) ∧ RowKit.Hid (SpI s us a k) ∧ k ≤ s.size ∧ a ≤ k ∧ RowKit.Hid (OwQ W w.heap.size v us) ∧ RowKit.Hid (Below w.heap.size w W)) (fun _ _ t _ => s.size - (intOf t).toNat)
  case atStart => exact ⟨0, 0, [], rfl, rfl, ⟨rfl, Nat.le_refl _, Nat.zero_le _, rfl, Nat.le_refl _⟩, Nat.zero_le _, Nat.le_refl _, World.ownsRow_nil _ _ _ _, Below.refl _ _⟩
  case round =>
    rename World => W
    obtain ⟨k, a, us, rfl, rfl, HI, hk, ha, HO, HB⟩ := hrel
    by_cases hlt : k < s.size
    · have kc : (k : Int) < (s.size : Int) := by omega
      have ac : (a : Int) ≤ (k : Int) := by omega
      have kc' : (k : Int) ≤ (s.size : Int) := by omega
      have yl := yb_lt hlt
      have ON := Lib.hid (HI.out.on hlt)
      have CT := Lib.hid (HI.out.cut hlt)
      have lb : us.length ≤ 1073741824 := by have := HI.out.len; omega
      rw [yl] at ON CT
      clear yl
      by_cases hc : s[k].toNat = 10
      · have C1 := Lib.hid (CT.out (by omega))
        clear ON CT
        go_wp2_with (at_builtin; refine wp_stA _ w.heap.size (s.extract a k) us rfl _ _ rfl _ rfl rfl HO.out lb HB.out.size ?_; intro v3 w3 o3 g3; have O3 := Lib.hid o3; have B3 := Lib.hid ((HB.out.alloc HB.out.size _).grown g3 (Nat.le_trans HB.out.size (by simp)) (fun k e => (World.ownsRow.lt HO.out k e).1)); clear o3 g3)
        go_roundw
        case rel => exact ⟨k + 1, k + 1, us ++ [s.extract a k], by go_num, by go_num, C1, by omega, Nat.le_refl _, O3, B3⟩
        case measure => simp [intOf]; omega
      · have C1 := Lib.hid (ON.out (by omega))
        clear ON CT
        go_wp2
        go_roundw
        case rel => exact ⟨k + 1, a, us, by go_num, by go_num, C1, by omega, by omega, HO, HB⟩
        case measure => simp [intOf]; omega
    · obtain rfl : k = s.size := by omega
      have FI := Lib.hid HI.out.fin
      have lb : us.length ≤ 1073741824 := by have := HI.out.len; omega
      have ac : (a : Int) ≤ (s.size : Int) := by omega
      by_cases ha2 : a < s.size
      · have ac2 : (a : Int) < (s.size : Int) := by omega
        go_wp2_with (at_builtin; refine wp_stA _ w.heap.size (s.extract a s.size) us rfl _ _ rfl _ rfl rfl HO.out lb HB.out.size ?_; intro v3 w3 o3 g3; have O3 := Lib.hid o3; have B3 := Lib.hid ((HB.out.alloc HB.out.size _).grown g3 (Nat.le_trans HB.out.size (by simp)) (fun k e => (World.ownsRow.lt HO.out k e).1)); clear o3 g3)
        go_ret
        exact ⟨_, rfl, by rw [FI.out, if_pos ha2]; exact O3.out, B3.out⟩
      · have ac2 : ¬ (a : Int) < (s.size : Int) := by omega
        go_wp2
        go_ret
        exact ⟨_, rfl, by rw [FI.out, if_neg ha2]; exact HO.out, HB.out⟩
end Go.Proofs.YtccjeipkljdhdaaGreatDoor

namespace Go.Proofs.YtccjeipkljdhdaaGreatDoor
open Go.RowKit
set_option linter.unusedVariables false
set_option linter.unusedSimpArgs false

def rmA (c : Int) : Bool := c != 59
/-- What stands while a line's words are looked for: from -1: none is open. -/
structure WdI (s : ByteArray) (us : List ByteArray) (from_ : Int) (i : Nat) : Prop where
  wi : ∃ (bg : Nat) (op : Bool), WI s i bg op us ∧ from_ = if op = true then (bg : Int) else -1
  len : us.length ≤ i
theorem WdI.bd {s : ByteArray} {us : List ByteArray} {f : Int} {i : Nat} (h : WdI s us f i) : f = -1 ∨ ∃ b : Nat, f = (b : Int) ∧ b ≤ i := by
  obtain ⟨bg, op, h1, h2⟩ := h.wi
  rcases h1 with ⟨rfl, q, _⟩ | ⟨rfl, _⟩
  · rw [if_pos rfl] at h2
    exact .inr ⟨bg, h2, q⟩
  · rw [if_neg (by decide)] at h2
    exact .inl h2
theorem WdI.fin {s : ByteArray} {us : List ByteArray} {f : Int} {E : Nat} (h : WdI s us f E) (hE : E = fy rmA s 0) : (∀ b : Nat, f = (b : Int) → wdsL s 0 = us ++ [s.extract b E]) ∧ (f = -1 → wdsL s 0 = us) := by
  obtain ⟨bg, op, h1, h2⟩ := h.wi
  have le : E ≤ s.size := by rw [hE]; exact fy_le (Nat.zero_le _)
  have e : wdsL s 0 = (if op = true then us ++ [s.extract bg E] else us) := by
    by_cases q : E < s.size
    · refine h1.rem ?_
      have out := fy_out rmA s 0
      rw [← hE] at out
      have : ¬ rmA (yb s E) = true := fun z => out ⟨q, z⟩
      simpa [rmA] using this
    · have hs : E = s.size := by omega
      have := h1.end q le
      rw [← hs] at this
      exact this
  refine ⟨fun b hb => ?_, fun hb => ?_⟩
  · cases op with
    | true => rw [if_pos rfl] at h2 e; rw [e, show b = bg by omega]
    | false => rw [if_neg (by decide)] at h2; omega
  · cases op with
    | true => rw [if_pos rfl] at h2; omega
    | false => rw [e]; rfl
end Go.Proofs.YtccjeipkljdhdaaGreatDoor

namespace Go.Proofs.YtccjeipkljdhdaaGreatDoor
open Go.RowKit
set_option linter.unusedVariables false
set_option linter.unusedSimpArgs false

/-- A text without a line feed. -/
def NoLf (a : ByteArray) : Prop := ∀ i, i < a.size → yb a i ≠ 10
/-- A line and its feed ahead of a text. -/
def lfT (a r : ByteArray) : ByteArray := a ++ (⟨#[10]⟩ ++ r)
theorem lfT_size (a r : ByteArray) : (lfT a r).size = a.size + 1 + r.size := by
  unfold lfT
  rw [ByteArray.size_append, ByteArray.size_append]
  have : (ByteArray.mk #[10]).size = 1 := rfl
  omega
theorem yb_app (a b : ByteArray) (i : Nat) : yb (a ++ b) i = if i < a.size then yb a i else yb b (i - a.size) := by
  by_cases h : i < a.size
  · rw [if_pos h, yb_lt h, yb_lt (show i < (a ++ b).size by rw [ByteArray.size_append]; omega), ByteArray.getElem_append_left h]
  · rw [if_neg h]
    by_cases h2 : i < (a ++ b).size
    · have h3 : i - a.size < b.size := by rw [ByteArray.size_append] at h2; omega
      rw [yb_lt h2, yb_lt h3, ByteArray.getElem_append_right (by omega)]
    · unfold yb
      rw [dif_neg h2, dif_neg (by rw [ByteArray.size_append] at h2; omega)]
theorem yb_lf (r : ByteArray) : yb (ByteArray.mk #[10] ++ r) 0 = 10 := by
  rw [yb_app, if_pos (by decide)]
  rfl
theorem fy_lfT {a r : ByteArray} (h : NoLf a) : fy lfA (lfT a r) 0 = a.size := by
  have sz := lfT_size a r
  have e := fy_run (p := lfA) (s := lfT a r) (i := 0) a.size (fun j hj => ⟨by omega, by
    rw [Nat.zero_add]
    unfold lfT
    rw [yb_app, if_pos hj]
    have := h j hj
    simp [lfA, this]⟩)
  rw [e, Nat.zero_add]
  refine fy_stop (fun q => ?_)
  have y : yb (lfT a r) a.size = 10 := by
    unfold lfT
    rw [yb_app, if_neg (by omega), Nat.sub_self]
    exact yb_lf r
  rw [y] at q
  exact absurd q.2 (by decide)
theorem lnsR_lfT {a r : ByteArray} (h : NoLf a) : lnsR (lfT a r) = a :: lnsR r := by
  have sz := lfT_size a r
  have one : (ByteArray.mk #[10]).size = 1 := rfl
  rw [lnsR_cons (by omega), fy_lfT h]
  congr 1
  · unfold lfT
    rw [ByteArray.extract_append_eq_left rfl]
  · congr 1
    unfold lfT
    rw [← ByteArray.append_assoc]
    exact ByteArray.extract_append_eq_right (by rw [ByteArray.size_append]; omega) (by rw [ByteArray.size_append])
/-- Lines, each with its feed, ahead of a text. -/
def lfJ : List ByteArray → ByteArray → ByteArray
  | [], r => r
  | a :: l, r => lfT a (lfJ l r)
theorem lnsR_lfJ : ∀ (l : List ByteArray) (r : ByteArray), (∀ a ∈ l, NoLf a) → lnsR (lfJ l r) = l ++ lnsR r
  | [], r, _ => rfl
  | a :: l, r, h => by
    show lnsR (lfT a (lfJ l r)) = _
    rw [lnsR_lfT (h a (by simp)), lnsR_lfJ l r (fun x hx => h x (by simp [hx]))]
    rfl
end Go.Proofs.YtccjeipkljdhdaaGreatDoor

namespace Go.Proofs.YtccjeipkljdhdaaGreatDoor
open Go.RowKit
set_option linter.unusedVariables false
set_option linter.unusedSimpArgs false

def bkB (c : UInt8) : Bool := bkA (c.toNat : Int)
/-- The words that bytes say, one word being open. -/
def wLs : List UInt8 → List UInt8 → List (List UInt8)
  | cur, [] => if cur = [] then [] else [cur]
  | cur, c :: r => if bkB c = true then (if cur = [] then wLs [] r else cur :: wLs [] r) else if c.toNat = 59 then (if cur = [] then [] else [cur]) else wLs (cur ++ [c]) r
theorem wLs_blank {c : UInt8} {r : List UInt8} (h : bkB c = true) : wLs [] (c :: r) = wLs [] r := by rw [wLs, if_pos h, if_pos rfl]
/-- The bytes of a text from a place on. -/
theorem drop_at {s : ByteArray} {i : Nat} (h : i < s.size) : s.data.toList.drop i = s[i] :: s.data.toList.drop (i + 1) := by
  rw [List.drop_eq_getElem_cons (show i < s.data.toList.length from h)]
  rfl
theorem drop_out {s : ByteArray} {i : Nat} (h : ¬ i < s.size) : s.data.toList.drop i = [] := List.drop_eq_nil_of_le (Nat.le_of_not_lt h)
theorem seg_list (s : ByteArray) (i j : Nat) (hj : j ≤ s.size) : (s.extract i j).data.toList = (s.data.toList.drop i).take (j - i) := by
  rw [ByteArray.data_extract, Array.toList_extract, List.extract_eq_take_drop]
theorem wLs_run {s : ByteArray} : ∀ (n i : Nat) (cur : List UInt8), s.size - i = n → wLs cur (s.data.toList.drop i) = wLs (cur ++ (s.data.toList.drop i).take (fy wrA s i - i)) (s.data.toList.drop (fy wrA s i))
  | 0, i, cur, hn => by
    rw [fy_stop (fun q => by omega), Nat.sub_self, List.take_zero, List.append_nil]
  | n + 1, i, cur, hn => by
    by_cases q : i < s.size ∧ wrA (yb s i) = true
    · have ge := fy_ge wrA s (i + 1)
      have w := q.2
      rw [yb_lt q.1] at w
      have nb : ¬ bkB s[i] = true := by rw [show bkB s[i] = bkA (s[i].toNat : Int) from rfl, wrA_bk w]; decide
      have n59 : ¬ s[i].toNat = 59 := by
        intro e
        unfold wrA at w
        simp only [Bool.and_eq_true, bne_iff_ne, ne_eq] at w
        exact w.2 (by omega)
      rw [fy_go q.1 q.2, drop_at q.1, wLs, if_neg nb, if_neg n59, wLs_run n (i + 1) (cur ++ [s[i]]) (by omega), List.append_assoc]
      congr 2
      rw [show fy wrA s (i + 1) - i = (fy wrA s (i + 1) - (i + 1)) + 1 by omega, List.take_succ_cons]
      rfl
    · rw [fy_stop q, Nat.sub_self, List.take_zero, List.append_nil]
theorem wLs_skip {s : ByteArray} : ∀ (n i : Nat), s.size - i = n → wLs [] (s.data.toList.drop i) = wLs [] (s.data.toList.drop (fy bkA s i))
  | 0, i, hn => by rw [fy_stop (fun q => by omega)]
  | n + 1, i, hn => by
    by_cases q : i < s.size ∧ bkA (yb s i) = true
    · have w := q.2
      rw [yb_lt q.1] at w
      rw [fy_go q.1 q.2, drop_at q.1, wLs_blank w]
      exact wLs_skip n (i + 1) (by omega)
    · rw [fy_stop q]
theorem not_word {c : Int} (h0 : 0 ≤ c) (nb : ¬ bkA c = true) (nw : ¬ wrA c = true) : c = 59 := by
  unfold wrA at nw
  rw [Bool.eq_false_iff.2 nb] at nw
  simp at nw
  omega
theorem wds_list (s : ByteArray) : ∀ (n i : Nat), s.size - i = n → (wdsL s i).map (fun x => x.data.toList) = wLs [] (s.data.toList.drop i) := by
  intro n
  induction n using Nat.strongRecOn with
  | _ n ih =>
    intro i hn
    rw [wLs_skip _ i rfl]
    have g1 := fy_ge bkA s i
    have o1 := fy_out bkA s i
    rw [wdsL]
    by_cases h : fy bkA s i < s.size ∧ wrA (yb s (fy bkA s i)) = true
    · rw [dif_pos h, List.map_cons]
      have g2 := fy_ge wrA s (fy bkA s i + 1)
      have e2 := fy_go h.1 h.2
      have l2 := fy_le (p := wrA) (s := s) (i := fy bkA s i) (by omega)
      have o2 := fy_out wrA s (fy bkA s i)
      rw [wLs_run _ (fy bkA s i) [] rfl, List.nil_append, ← seg_list s _ _ l2, ih _ (by omega) _ rfl]
      have ne : (s.extract (fy bkA s i) (fy wrA s (fy bkA s i))).data.toList ≠ [] := by
        intro e
        have := congrArg List.length e
        rw [show (s.extract (fy bkA s i) (fy wrA s (fy bkA s i))).data.toList.length = (s.extract (fy bkA s i) (fy wrA s (fy bkA s i))).size from rfl, ByteArray.size_extract] at this
        simp at this
        omega
      generalize (s.extract (fy bkA s i) (fy wrA s (fy bkA s i))).data.toList = W at *
      by_cases q : fy wrA s (fy bkA s i) < s.size
      · rw [drop_at q]
        have nw : ¬ wrA (yb s (fy wrA s (fy bkA s i))) = true := fun z => o2 ⟨q, z⟩
        rw [yb_lt q] at nw
        by_cases b : bkB s[fy wrA s (fy bkA s i)] = true
        · rw [wLs_blank b, wLs, if_pos b, if_neg ne]
        · have c : s[fy wrA s (fy bkA s i)].toNat = 59 := by
            have := not_word (by omega) b nw
            omega
          rw [wLs, if_neg b, if_pos c, if_pos rfl, wLs, if_neg b, if_pos c, if_neg ne]
      · rw [drop_out q, wLs, if_pos rfl, wLs, if_neg ne]
    · rw [dif_neg h]
      by_cases q : fy bkA s i < s.size
      · rw [drop_at q]
        have nb : ¬ bkA (yb s (fy bkA s i)) = true := fun z => o1 ⟨q, z⟩
        have nw : ¬ wrA (yb s (fy bkA s i)) = true := fun z => h ⟨q, z⟩
        rw [yb_lt q] at nb nw
        have c : s[fy bkA s i].toNat = 59 := by
          have := not_word (by omega) nb nw
          omega
        rw [wLs, if_neg (show ¬ bkB s[fy bkA s i] = true from nb), if_pos c, if_pos rfl]
        rfl
      · rw [drop_out q, wLs, if_pos rfl]
        rfl
theorem map_inj_bytes : ∀ {l m : List ByteArray}, l.map (fun x => x.data.toList) = m.map (fun x => x.data.toList) → l = m
  | [], [], _ => rfl
  | [], _ :: _, h => by cases h
  | _ :: _, [], h => by cases h
  | x :: l, y :: m, h => by
    simp only [List.map_cons, List.cons.injEq] at h
    rw [map_inj_bytes h.2, ByteArray.ext (Array.toList_inj.1 h.1)]
end Go.Proofs.YtccjeipkljdhdaaGreatDoor

namespace Go.Proofs.YtccjeipkljdhdaaGreatDoor
open Go.RowKit
set_option linter.unusedVariables false
set_option linter.unusedSimpArgs false

theorem wds_of {s : ByteArray} {l : List ByteArray} (h : wLs [] s.data.toList = l.map fun x => x.data.toList) : wdsL s 0 = l := by
  apply map_inj_bytes
  rw [wds_list s _ 0 rfl, List.drop_zero, h]

def exLn : List ByteArray := [⟨#[110, 97, 109, 101, 115, 32, 65]⟩, ⟨#[99, 117, 114, 115, 32, 69, 85, 82]⟩, ⟨#[112, 111, 111, 108, 32, 53]⟩, ⟨#[104, 111, 114, 105, 122, 111, 110, 32, 49]⟩, ⟨#[99, 101, 108, 108, 115, 32, 48]⟩, ⟨#[115, 108, 111, 116, 115, 32, 48]⟩, ⟨#[115, 116, 97, 99, 107, 32, 50]⟩, ⟨#[100, 97, 121, 32, 49]⟩, ⟨#[32, 32, 111, 98, 115, 32, 65, 32, 49]⟩, ⟨#[32, 32, 99, 111, 110, 115, 116, 32, 53]⟩, ⟨#[32, 32, 109, 117, 108]⟩, ⟨#[32, 32, 102, 108, 111, 119, 32, 69, 85, 82]⟩, ⟨#[32, 32, 101, 110, 100]⟩]
def exT : ByteArray := ⟨#[110, 97, 109, 101, 115, 32, 65, 10, 99, 117, 114, 115, 32, 69, 85, 82, 10, 112, 111, 111, 108, 32, 53, 10, 104, 111, 114, 105, 122, 111, 110, 32, 49, 10, 99, 101, 108, 108, 115, 32, 48, 10, 115, 108, 111, 116, 115, 32, 48, 10, 115, 116, 97, 99, 107, 32, 50, 10, 100, 97, 121, 32, 49, 10, 32, 32, 111, 98, 115, 32, 65, 32, 49, 10, 32, 32, 99, 111, 110, 115, 116, 32, 53, 10, 32, 32, 109, 117, 108, 10, 32, 32, 102, 108, 111, 119, 32, 69, 85, 82, 10, 32, 32, 101, 110, 100, 10]⟩
def exA : Ap := ⟨[⟨#[65]⟩], [⟨#[69, 85, 82]⟩], [5], 1, 0, 0, 2, [(1, [⟨3, 0, 1⟩, ⟨1, 0, 0⟩, ⟨11, 0, 0⟩, ⟨28, 0, 0⟩, ⟨0, 0, 0⟩])]⟩
theorem exW0 : wdsL ⟨#[110, 97, 109, 101, 115, 32, 65]⟩ 0 = [⟨#[110, 97, 109, 101, 115]⟩, ⟨#[65]⟩] := wds_of (by decide)
theorem exW1 : wdsL ⟨#[99, 117, 114, 115, 32, 69, 85, 82]⟩ 0 = [⟨#[99, 117, 114, 115]⟩, ⟨#[69, 85, 82]⟩] := wds_of (by decide)
theorem exW2 : wdsL ⟨#[112, 111, 111, 108, 32, 53]⟩ 0 = [⟨#[112, 111, 111, 108]⟩, ⟨#[53]⟩] := wds_of (by decide)
theorem exW3 : wdsL ⟨#[104, 111, 114, 105, 122, 111, 110, 32, 49]⟩ 0 = [⟨#[104, 111, 114, 105, 122, 111, 110]⟩, ⟨#[49]⟩] := wds_of (by decide)
theorem exW4 : wdsL ⟨#[99, 101, 108, 108, 115, 32, 48]⟩ 0 = [⟨#[99, 101, 108, 108, 115]⟩, ⟨#[48]⟩] := wds_of (by decide)
theorem exW5 : wdsL ⟨#[115, 108, 111, 116, 115, 32, 48]⟩ 0 = [⟨#[115, 108, 111, 116, 115]⟩, ⟨#[48]⟩] := wds_of (by decide)
theorem exW6 : wdsL ⟨#[115, 116, 97, 99, 107, 32, 50]⟩ 0 = [⟨#[115, 116, 97, 99, 107]⟩, ⟨#[50]⟩] := wds_of (by decide)
theorem exW7 : wdsL ⟨#[100, 97, 121, 32, 49]⟩ 0 = [⟨#[100, 97, 121]⟩, ⟨#[49]⟩] := wds_of (by decide)
theorem exW8 : wdsL ⟨#[32, 32, 111, 98, 115, 32, 65, 32, 49]⟩ 0 = [⟨#[111, 98, 115]⟩, ⟨#[65]⟩, ⟨#[49]⟩] := wds_of (by decide)
theorem exW9 : wdsL ⟨#[32, 32, 99, 111, 110, 115, 116, 32, 53]⟩ 0 = [⟨#[99, 111, 110, 115, 116]⟩, ⟨#[53]⟩] := wds_of (by decide)
theorem exW10 : wdsL ⟨#[32, 32, 109, 117, 108]⟩ 0 = [⟨#[109, 117, 108]⟩] := wds_of (by decide)
theorem exW11 : wdsL ⟨#[32, 32, 102, 108, 111, 119, 32, 69, 85, 82]⟩ 0 = [⟨#[102, 108, 111, 119]⟩, ⟨#[69, 85, 82]⟩] := wds_of (by decide)
theorem exW12 : wdsL ⟨#[32, 32, 101, 110, 100]⟩ 0 = [⟨#[101, 110, 100]⟩] := wds_of (by decide)
theorem noLf_of {a : ByteArray} (h : ∀ c ∈ a.data.toList, c ≠ 10) : NoLf a := by
  intro i hi e
  rw [yb_lt hi] at e
  have m : a[i] ∈ a.data.toList := by
    show a.data[i] ∈ a.data.toList
    exact Array.getElem_mem_toList _
  exact h _ m (by apply UInt8.toNat_inj.1; simpa using (by omega : a[i].toNat = 10))
theorem exLn_noLf : ∀ a ∈ exLn, NoLf a := by
  have : ∀ a ∈ exLn, ∀ c ∈ a.data.toList, c ≠ 10 := by decide
  exact fun a ha => noLf_of (this a ha)
theorem lfT_list (a r : ByteArray) : (lfT a r).data.toList = a.data.toList ++ 10 :: r.data.toList := by
  unfold lfT
  rw [ByteArray.data_append, ByteArray.data_append]
  simp
theorem lfJ_list : ∀ (l : List ByteArray) (r : ByteArray), (lfJ l r).data.toList = (l.flatMap fun a => a.data.toList ++ [10]) ++ r.data.toList
  | [], r => by simp [lfJ]
  | a :: l, r => by
    show (lfT a (lfJ l r)).data.toList = _
    rw [lfT_list, lfJ_list l r]
    simp
theorem bytes_list {a b : ByteArray} (h : a.data.toList = b.data.toList) : a = b := ByteArray.ext (Array.toList_inj.1 h)
theorem exT_lf : exT = lfJ exLn ⟨#[]⟩ := by
  apply bytes_list
  rw [lfJ_list]
  rfl
theorem exT_lns : lnsR exT = exLn := by
  rw [exT_lf, lnsR_lfJ _ _ exLn_noLf, lnsR_nil (by decide), List.append_nil]

theorem exS0 : apLine (0, (⟨[], [], [], 0, 0, 0, 0, []⟩ : Ap)) ⟨#[110, 97, 109, 101, 115]⟩ [⟨#[65]⟩] = some (1, (⟨[⟨#[65]⟩], [], [], 0, 0, 0, 0, []⟩ : Ap)) := by kernel_rfl
theorem exS1 : apLine (1, (⟨[⟨#[65]⟩], [], [], 0, 0, 0, 0, []⟩ : Ap)) ⟨#[99, 117, 114, 115]⟩ [⟨#[69, 85, 82]⟩] = some (2, (⟨[⟨#[65]⟩], [⟨#[69, 85, 82]⟩], [], 0, 0, 0, 0, []⟩ : Ap)) := by kernel_rfl
theorem exS2 : apLine (2, (⟨[⟨#[65]⟩], [⟨#[69, 85, 82]⟩], [], 0, 0, 0, 0, []⟩ : Ap)) ⟨#[112, 111, 111, 108]⟩ [⟨#[53]⟩] = some (3, (⟨[⟨#[65]⟩], [⟨#[69, 85, 82]⟩], [5], 0, 0, 0, 0, []⟩ : Ap)) := by kernel_rfl
theorem exS3 : apLine (3, (⟨[⟨#[65]⟩], [⟨#[69, 85, 82]⟩], [5], 0, 0, 0, 0, []⟩ : Ap)) ⟨#[104, 111, 114, 105, 122, 111, 110]⟩ [⟨#[49]⟩] = some (4, (⟨[⟨#[65]⟩], [⟨#[69, 85, 82]⟩], [5], 1, 0, 0, 0, []⟩ : Ap)) := by kernel_rfl
theorem exS4 : apLine (4, (⟨[⟨#[65]⟩], [⟨#[69, 85, 82]⟩], [5], 1, 0, 0, 0, []⟩ : Ap)) ⟨#[99, 101, 108, 108, 115]⟩ [⟨#[48]⟩] = some (5, (⟨[⟨#[65]⟩], [⟨#[69, 85, 82]⟩], [5], 1, 0, 0, 0, []⟩ : Ap)) := by kernel_rfl
theorem exS5 : apLine (5, (⟨[⟨#[65]⟩], [⟨#[69, 85, 82]⟩], [5], 1, 0, 0, 0, []⟩ : Ap)) ⟨#[115, 108, 111, 116, 115]⟩ [⟨#[48]⟩] = some (6, (⟨[⟨#[65]⟩], [⟨#[69, 85, 82]⟩], [5], 1, 0, 0, 0, []⟩ : Ap)) := by kernel_rfl
theorem exS6 : apLine (6, (⟨[⟨#[65]⟩], [⟨#[69, 85, 82]⟩], [5], 1, 0, 0, 0, []⟩ : Ap)) ⟨#[115, 116, 97, 99, 107]⟩ [⟨#[50]⟩] = some (7, (⟨[⟨#[65]⟩], [⟨#[69, 85, 82]⟩], [5], 1, 0, 0, 2, []⟩ : Ap)) := by kernel_rfl
theorem exS7 : apLine (7, (⟨[⟨#[65]⟩], [⟨#[69, 85, 82]⟩], [5], 1, 0, 0, 2, []⟩ : Ap)) ⟨#[100, 97, 121]⟩ [⟨#[49]⟩] = some (7, (⟨[⟨#[65]⟩], [⟨#[69, 85, 82]⟩], [5], 1, 0, 0, 2, [(1, [])]⟩ : Ap)) := by kernel_rfl
theorem exS8 : apLine (7, (⟨[⟨#[65]⟩], [⟨#[69, 85, 82]⟩], [5], 1, 0, 0, 2, [(1, [])]⟩ : Ap)) ⟨#[111, 98, 115]⟩ [⟨#[65]⟩, ⟨#[49]⟩] = some (7, (⟨[⟨#[65]⟩], [⟨#[69, 85, 82]⟩], [5], 1, 0, 0, 2, [(1, [⟨3, 0, 1⟩])]⟩ : Ap)) := by kernel_rfl
theorem exS9 : apLine (7, (⟨[⟨#[65]⟩], [⟨#[69, 85, 82]⟩], [5], 1, 0, 0, 2, [(1, [⟨3, 0, 1⟩])]⟩ : Ap)) ⟨#[99, 111, 110, 115, 116]⟩ [⟨#[53]⟩] = some (7, (⟨[⟨#[65]⟩], [⟨#[69, 85, 82]⟩], [5], 1, 0, 0, 2, [(1, [⟨3, 0, 1⟩, ⟨1, 0, 0⟩])]⟩ : Ap)) := by kernel_rfl
theorem exS10 : apLine (7, (⟨[⟨#[65]⟩], [⟨#[69, 85, 82]⟩], [5], 1, 0, 0, 2, [(1, [⟨3, 0, 1⟩, ⟨1, 0, 0⟩])]⟩ : Ap)) ⟨#[109, 117, 108]⟩ [] = some (7, (⟨[⟨#[65]⟩], [⟨#[69, 85, 82]⟩], [5], 1, 0, 0, 2, [(1, [⟨3, 0, 1⟩, ⟨1, 0, 0⟩, ⟨11, 0, 0⟩])]⟩ : Ap)) := by kernel_rfl
theorem exS11 : apLine (7, (⟨[⟨#[65]⟩], [⟨#[69, 85, 82]⟩], [5], 1, 0, 0, 2, [(1, [⟨3, 0, 1⟩, ⟨1, 0, 0⟩, ⟨11, 0, 0⟩])]⟩ : Ap)) ⟨#[102, 108, 111, 119]⟩ [⟨#[69, 85, 82]⟩] = some (7, (⟨[⟨#[65]⟩], [⟨#[69, 85, 82]⟩], [5], 1, 0, 0, 2, [(1, [⟨3, 0, 1⟩, ⟨1, 0, 0⟩, ⟨11, 0, 0⟩, ⟨28, 0, 0⟩])]⟩ : Ap)) := by kernel_rfl
theorem exS12 : apLine (7, (⟨[⟨#[65]⟩], [⟨#[69, 85, 82]⟩], [5], 1, 0, 0, 2, [(1, [⟨3, 0, 1⟩, ⟨1, 0, 0⟩, ⟨11, 0, 0⟩, ⟨28, 0, 0⟩])]⟩ : Ap)) ⟨#[101, 110, 100]⟩ [] = some (7, (⟨[⟨#[65]⟩], [⟨#[69, 85, 82]⟩], [5], 1, 0, 0, 2, [(1, [⟨3, 0, 1⟩, ⟨1, 0, 0⟩, ⟨11, 0, 0⟩, ⟨28, 0, 0⟩, ⟨0, 0, 0⟩])]⟩ : Ap)) := by kernel_rfl
theorem exW13 : wdsL ⟨#[32, 32, 101, 110, 100, 115]⟩ 0 = [⟨#[101, 110, 100, 115]⟩] := wds_of (by decide)
theorem exS13 : apLine (7, (⟨[⟨#[65]⟩], [⟨#[69, 85, 82]⟩], [5], 1, 0, 0, 2, [(1, [⟨3, 0, 1⟩, ⟨1, 0, 0⟩, ⟨11, 0, 0⟩, ⟨28, 0, 0⟩])]⟩ : Ap)) ⟨#[101, 110, 100, 115]⟩ [] = none := by kernel_rfl
def exL2 : List ByteArray := [⟨#[110, 97, 109, 101, 115, 32, 65]⟩, ⟨#[99, 117, 114, 115, 32, 69, 85, 82]⟩, ⟨#[112, 111, 111, 108, 32, 53]⟩, ⟨#[104, 111, 114, 105, 122, 111, 110, 32, 49]⟩, ⟨#[99, 101, 108, 108, 115, 32, 48]⟩, ⟨#[115, 108, 111, 116, 115, 32, 48]⟩, ⟨#[115, 116, 97, 99, 107, 32, 50]⟩, ⟨#[100, 97, 121, 32, 49]⟩, ⟨#[32, 32, 111, 98, 115, 32, 65, 32, 49]⟩, ⟨#[32, 32, 99, 111, 110, 115, 116, 32, 53]⟩, ⟨#[32, 32, 109, 117, 108]⟩, ⟨#[32, 32, 102, 108, 111, 119, 32, 69, 85, 82]⟩, ⟨#[32, 32, 101, 110, 100, 115]⟩]
def exT2 : ByteArray := ⟨#[110, 97, 109, 101, 115, 32, 65, 10, 99, 117, 114, 115, 32, 69, 85, 82, 10, 112, 111, 111, 108, 32, 53, 10, 104, 111, 114, 105, 122, 111, 110, 32, 49, 10, 99, 101, 108, 108, 115, 32, 48, 10, 115, 108, 111, 116, 115, 32, 48, 10, 115, 116, 97, 99, 107, 32, 50, 10, 100, 97, 121, 32, 49, 10, 32, 32, 111, 98, 115, 32, 65, 32, 49, 10, 32, 32, 99, 111, 110, 115, 116, 32, 53, 10, 32, 32, 109, 117, 108, 10, 32, 32, 102, 108, 111, 119, 32, 69, 85, 82, 10, 32, 32, 101, 110, 100, 115, 10]⟩
theorem exL2_noLf : ∀ a ∈ exL2, NoLf a := by
  have : ∀ a ∈ exL2, ∀ c ∈ a.data.toList, c ≠ 10 := by decide
  exact fun a ha => noLf_of (this a ha)
theorem exT2_lns : lnsR exT2 = exL2 := by
  have e : exT2 = lfJ exL2 ⟨#[]⟩ := by
    apply bytes_list
    rw [lfJ_list]
    rfl
  rw [e, lnsR_lfJ _ _ exL2_noLf, lnsR_nil (by decide), List.append_nil]
theorem exAll : apAll exLn 0 (0, Ap.zero) = .ok (13, (7, exA)) := by
  unfold exLn Ap.zero
  simp only [apAll, exW0, exW1, exW2, exW3, exW4, exW5, exW6, exW7, exW8, exW9, exW10, exW11, exW12, exS0, exS1, exS2, exS3, exS4, exS5, exS6, exS7, exS8, exS9, exS10, exS11, exS12]
  rfl
theorem exAll2 : apAll exL2 0 (0, Ap.zero) = .error 13 := by
  unfold exL2 Ap.zero
  simp only [apAll, exW0, exW1, exW2, exW3, exW4, exW5, exW6, exW7, exW8, exW9, exW10, exW11, exW13, exS0, exS1, exS2, exS3, exS4, exS5, exS6, exS7, exS8, exS9, exS10, exS11, exS13]
theorem exCan : canP exA.pg := by
  have one : ∀ i, i < 1 → i = 0 := by omega
  refine ⟨by decide, ⟨by decide, by kernel_rfl, fun i h => ?_, by decide, by kernel_rfl, fun i h => ?_, by decide, fun i h => ?_⟩, ⟨fun i hi => ?_, by decide⟩, fun i hi => ?_, by kernel_rfl⟩
  · simp [Ap.pg, exA] at h
  · simp [Ap.pg, exA] at h
  · simp [Ap.pg, exA] at h
  · obtain rfl := one i hi
    exact ⟨by decide, by decide⟩
  · obtain rfl := one i hi
    refine ⟨by decide, fun n hn => ?_⟩
    have hn5 : n < 5 := hn
    rcases (show n = 0 ∨ n = 1 ∨ n = 2 ∨ n = 3 ∨ n = 4 by omega) with rfl | rfl | rfl | rfl | rfl
    all_goals
      refine ⟨by decide, by first | decide | (unfold In.okP; decide), by first | decide | (unfold inB; decide) | (unfold inB; simp [Ap.pg, exA])⟩
theorem exOut : outA exT = (exA, 0, 0) := by
  unfold outA
  rw [if_neg (by decide), exT_lns, exAll]
  simp only
  rw [if_pos (by decide), if_pos exCan]
theorem exOut2 : outA exT2 = (Ap.zero, 13, 131) := by
  unfold outA
  rw [if_neg (by decide), exT2_lns, exAll2]
  rfl
theorem exE : exT.extract 0 103 ++ ⟨#[101, 110, 100, 115, 10]⟩ = exT2 := by
  apply bytes_list
  rw [ByteArray.data_append, ByteArray.data_extract]
  decide
end Go.Proofs.YtccjeipkljdhdaaGreatDoor
