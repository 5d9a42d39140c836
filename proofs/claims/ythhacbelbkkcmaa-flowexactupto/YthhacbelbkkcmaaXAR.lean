import Derived.Test.YthhacbelbkkcmaaXAQ
import Derived.Test.YthhacbelbkkcmaaXAA
namespace Go.Proofs.Ythhacbelbkkcmaa
open Go.RowKit
set_option linter.unusedVariables false
set_option linter.unusedSimpArgs false

theorem srtB_srt {l : List Fl} (h : srtB l = true) : Srt l := srt_of fun i hi => (of_decide_eq_true h) i (by omega) hi
/-- What Merge answers for lists that are ordered by day. -/
structure MgOf (Ls : List (List Fl)) (T : List Fl) : Prop where
  srt : Srt T
  day : ∀ D, onDay D T = Ls.flatMap (onDay D)
  len : T.length = ltot Ls
/-- The same, of a row of lists. -/
structure MgRow (Ls Rs : List (List Fl)) : Prop where
  srt : ∀ l ∈ Rs, Srt l
  day : ∀ D, Rs.flatMap (onDay D) = Ls.flatMap (onDay D)
  len : ltot Rs = ltot Ls
theorem MgRow.next {Ls Rs : List (List Fl)} (h : MgRow Ls Rs) : MgRow Ls (mpairs Rs) :=
  ⟨mpairs_srt Rs h.srt, fun D => (mpairs_day D Rs h.srt).trans (h.day D), (mpairs_tot Rs).trans h.len⟩
theorem MgRow.one {Ls : List (List Fl)} {T : List Fl} (h : MgRow Ls [T]) : MgOf Ls T :=
  ⟨h.srt T (by simp), fun D => by have := h.day D; simpa using this, by have := h.len; simpa [ltot] using this⟩
theorem lo_low {w : World} {B B' : Nat} {x : Option Addr} {n : Nat} {Ls : List (List Fl)} (h : LO w B x n Ls) (hb : B' ≤ B) : LO w B' x n Ls := fun b o q i hi => by
  obtain ⟨v, h1, h2⟩ := h b o q i hi
  exact ⟨v, h1, h2.low hb⟩
set_option maxRecDepth 100000 in
set_option maxHeartbeats 4000000 in
theorem merge_own (a : Option Addr) (n cap : Nat) (Ls : List (List Fl)) (w : World) (h : LL w a n Ls) (ht : ltot Ls ≤ 1048576) :
    Calls Try.prog 17 #[.slice a n cap] w fun e w' => Below w.heap.size w w' ∧
      (((∃ l ∈ Ls, srtB l = false) ∧ e = .returned (.tuple #[.slice none 0 0, .int .i64 1])) ∨
       ((∀ l ∈ Ls, srtB l = true) ∧ ∃ T v, e = .returned (.tuple #[v, .int .i64 0]) ∧ OV w' w.heap.size v T ∧ MgOf Ls T)) := by
  have hn : n ≤ 1048576 := h.2.1
  have hl := h.1
  have H := Lib.hid h
  have HL := Lib.hid hl
  have MEM := Lib.hid (p := ∀ i, i < n → Ls.getD i [] ∈ Ls) (fun i hi => by rw [show Ls.getD i [] = Ls[i]'(by omega) by simp [List.getD, show i < Ls.length by omega]]; exact List.getElem_mem _)
  have ALL := Lib.hid (p := (∀ i, i < n → srtB (Ls.getD i []) = true) → ∀ l ∈ Ls, srtB l = true) (fun q l hm => by
    obtain ⟨j, hj, rfl⟩ := List.getElem_of_mem hm
    have := q j (by omega)
    rw [show Ls.getD j [] = Ls[j] by simp [List.getD, hj]] at this
    exact this)
  have KP := Lib.hid (fun A N C W Rs (h : LL W A N Rs) (ht : ltot Rs ≤ 1048576) => pairs_own A N C Rs W h ht)
  clear h hl
  go_enter Try.func17, Try.ntmps17
  go_wp2
  go_loopw [9] (fun t wr => ∃ i : Nat, i ≤ n ∧ t = .int .i64 (i : Int) ∧ (∀ j, j < i → srtB (Ls.getD j []) = true) ∧ Below w.heap.size w wr) (fun t _ => n - (intOf t).toNat)
  case atStart => exact ⟨0, by omega, rfl, fun j hj => by omega, Below.refl _ _⟩
  case round =>
    obtain ⟨i, hi, rfl, hj, hB⟩ := hrel
    rename World => wr
    have BB := Lib.hid hB
    have HJ := Lib.hid hj
    by_cases hlt : i < n
    · obtain ⟨b, o, rfl, hb, hc⟩ := H.out.row (by omega)
      obtain ⟨v, q1, f1⟩ := hc i hlt
      have q1 := (hB.cell (p := ⟨b, o + i, none⟩) hb).trans q1
      have f1 := f1.later hB
      have MI := Lib.hid (MEM.out i hlt)
      have NI := Lib.hid (p := srtB (Ls.getD i []) = true → ∀ j, j < i + 1 → srtB (Ls.getD j []) = true) (fun q j hj' => by
        by_cases e : j = i
        · subst e; exact q
        · exact HJ.out j (by omega))
      generalize Ls.getD i [] = l at *
      obtain ⟨x, c, rfl, fl, _⟩ := f1
      have KS := Lib.hid (fun W (b : Below wr.heap.size wr W) => sorted_any x l.length c l W (fl.later b))
      have ki : (i : Int) < (n : Int) := by omega
      have kw : IntKind.i64.wrap ((i : Int) + 1) = (i : Int) + 1 := by simp [IntKind.wrap, IntKind.bits, IntKind.signed]; omega
      clear fl hB hj hc
      generalize l.length = ln at *
      cases hs : srtB l
      · rw [hs] at KS
        go_wp2_with fail
        go_at_call 34
        refine (KS.out _ (Below.refl _ _)).mono ?_
        rintro e w4 ⟨rfl, b4⟩
        have B4 := Lib.hid (BB.out.trans (b4.mono BB.out.size))
        clear b4
        go_wp2
        go_ret2
        exact ⟨B4.out, .inl ⟨⟨l, MI.out, hs⟩, rfl⟩⟩
      · rw [hs] at KS
        have NJ := Lib.hid (NI.out hs)
        clear hs NI
        go_wp2_with fail
        go_at_call 34
        refine (KS.out _ (Below.refl _ _)).mono ?_
        rintro e w4 ⟨rfl, b4⟩
        have B4 := Lib.hid (BB.out.trans (b4.mono BB.out.size))
        clear b4
        go_wp2
        go_roundw
        case rel => exact ⟨i + 1, by omega, by simp, NJ.out, B4.out⟩
        case measure => simp [intOf]; omega
    · obtain rfl : i = n := by omega
      have ki : ¬ (i : Int) < (i : Int) := by omega
      have AL := Lib.hid (ALL.out hj)
      have MR := Lib.hid (p := MgRow Ls Ls) ⟨fun l hl => srtB_srt (AL.out l hl), fun _ => rfl, rfl⟩
      clear hj hB
      by_cases h0 : i = 0
      · subst h0
        have L0 := Lib.hid (List.length_eq_zero_iff.1 HL.out)
        go_wp2
        go_ret2
        refine ⟨BB.out, .inr ⟨AL.out, [], _, rfl, World.ownsRow_nil _ _ _ _, ?_⟩⟩
        rw [L0.out]
        exact ⟨List.Pairwise.nil, fun D => rfl, rfl⟩
      · have k0 : ¬ ((i : Int) = 0) := by omega
        have k0' : ((i : Int) == 0) = false := by rw [beq_eq_false_iff_ne]; exact k0
        go_wp2_with fail
        go_at_call 36
        refine (KP.out _ _ _ _ Ls (H.out.later BB.out) ht).mono ?_
        rintro e w4 ⟨x4, c4, rfl, b4, l4, o4⟩
        have B4 := Lib.hid (BB.out.trans (b4.mono BB.out.size))
        have L4 := Lib.hid l4
        have O4 := Lib.hid (lo_low o4 BB.out.size)
        clear b4 l4 o4
        go_wp2
        go_loopw [6] (fun r wy => ∃ (x : Option Addr) (m c : Nat) (Rs : List (List Fl)), r = .slice x m c ∧ 1 ≤ m ∧ LL wy x m Rs ∧ LO wy w.heap.size x m Rs ∧ MgRow Ls Rs ∧ Below w.heap.size w wy) (fun r _ => lenV r)
        case atStart => exact ⟨_, _, _, _, rfl, by omega, L4.out, O4.out, MR.out.next, B4.out⟩
        case round =>
          obtain ⟨x, m, c, Rs, rfl, h1, hL, hO, hM, hB⟩ := hrel
          rename World => wy
          have BY := Lib.hid hB
          have LY := Lib.hid hL
          have OY := Lib.hid hO
          have MY := Lib.hid hM
          have tl : ltot Rs ≤ 1048576 := by rw [hM.len]; exact ht
          have m20 := hL.2.1
          clear hL hM hB hO
          by_cases hm1 : 1 < m
          · have km : (1 : Int) < (m : Int) := by omega
            go_wp2_with fail
            go_at_call 36
            refine (KP.out _ _ _ _ Rs LY.out tl).mono ?_
            rintro e w5 ⟨x5, c5, rfl, b5, l5, o5⟩
            have B5 := Lib.hid (BY.out.trans (b5.mono BY.out.size))
            have L5 := Lib.hid l5
            have O5 := Lib.hid (lo_low o5 BY.out.size)
            clear b5 l5 o5
            go_wp2
            go_roundw
            case rel => exact ⟨_, _, _, _, rfl, by omega, L5.out, O5.out, MY.out.next, B5.out⟩
            case measure => simp [lenV]; omega
          · obtain rfl : m = 1 := by omega
            obtain ⟨T, rfl⟩ : ∃ T, Rs = [T] := List.length_eq_one_iff.1 LY.out.1
            obtain ⟨b, o, rfl, hb, hc⟩ := LY.out.row (by omega)
            obtain ⟨v, q1, f1⟩ := OY.out b o rfl 0 (by omega)
            simp only [Nat.add_zero] at q1
            have F1 := Lib.hid (p := OV wy w.heap.size v T) f1
            obtain ⟨x, c', rfl, _⟩ := F1.out.sv (by have := MY.out.one.len; omega)
            clear hc f1
            go_wp2
            go_ret2
            exact ⟨BY.out, .inr ⟨AL.out, T, _, rfl, F1.out, MY.out.one⟩⟩
end Go.Proofs.Ythhacbelbkkcmaa

namespace Go.Proofs.Ythhacbelbkkcmaa
set_option linter.unusedVariables false
set_option linter.unusedSimpArgs false

theorem onDay_memR {D : Int} {l : List Fl} {f : Fl} (h : f ∈ onDay D l) : f ∈ l ∧ f.d = D := ⟨(List.mem_filter.1 h).1, of_decide_eq_true (List.mem_filter.1 h).2⟩
theorem onDay_cons_yes {x : Fl} {l : List Fl} : onDay x.d (x :: l) = x :: onDay x.d l := by simp [onDay]
theorem onDay_cons_no {D : Int} {x : Fl} {l : List Fl} (h : x.d ≠ D) : onDay D (x :: l) = onDay D l := by simp [onDay, h]
theorem srt_only : ∀ {S T : List Fl}, Srt S → Srt T → (∀ D, onDay D S = onDay D T) → S = T
  | [], [], _, _, _ => rfl
  | [], y :: ys, _, _, h => by have := h y.d; rw [onDay_cons_yes] at this; simp [onDay] at this
  | x :: xs, [], _, _, h => by have := h x.d; rw [onDay_cons_yes] at this; simp [onDay] at this
  | x :: xs, y :: ys, h1, h2, h => by
    have a1 := List.pairwise_cons.1 h1
    have a2 := List.pairwise_cons.1 h2
    have e : x.d = y.d := by
      have m1 : x ∈ y :: ys := by
        have : x ∈ onDay x.d (y :: ys) := by rw [← h x.d, onDay_cons_yes]; exact List.mem_cons_self ..
        exact (onDay_memR this).1
      have m2 : y ∈ x :: xs := by
        have : y ∈ onDay y.d (x :: xs) := by rw [h y.d, onDay_cons_yes]; exact List.mem_cons_self ..
        exact (onDay_memR this).1
      have l1 : y.d ≤ x.d := by
        rcases List.mem_cons.1 m1 with q | q
        · rw [q]; exact Int.le_refl _
        · exact a2.1 _ q
      have l2 : x.d ≤ y.d := by
        rcases List.mem_cons.1 m2 with q | q
        · rw [q]; exact Int.le_refl _
        · exact a1.1 _ q
      omega
    have hx := h x.d
    rw [onDay_cons_yes, e, onDay_cons_yes] at hx
    injection hx with hx1 hx2
    subst hx1
    congr 1
    refine srt_only a1.2 a2.2 fun D => ?_
    by_cases hd : x.d = D
    · subst hd; exact hx2
    · have := h D
      rw [onDay_cons_no hd, onDay_cons_no hd] at this
      exact this
/-- The flows of a day in what is taken of each list. -/
def flat (Ls : List (List Fl)) (n : Nat) (ps : List Nat) (D : Int) : List Fl := (List.range n).flatMap (fun i => onDay D ((Ls.getD i []).take (ps.getD i 0)))
def hd (Ls : List (List Fl)) (ps : List Nat) (i : Nat) : Int := ((Ls.getD i []).getD (ps.getD i 0) default).d
def has (Ls : List (List Fl)) (ps : List Nat) (i : Nat) : Prop := ps.getD i 0 < (Ls.getD i []).length
structure RM (Ls : List (List Fl)) (n : Nat) (ps : List Nat) (acc : List Fl) : Prop where
  len : ps.length = n
  le : ∀ i, i < n → ps.getD i 0 ≤ (Ls.getD i []).length
  cnt : acc.length = ps.sum
  srt : Srt acc
  low : ∀ f ∈ acc, ∀ i, i < n → has Ls ps i → f.d ≤ hd Ls ps i
  day : ∀ D, onDay D acc = flat Ls n ps D
  ahead : ∀ i j, i < j → j < n → has Ls ps i → ∀ f ∈ (Ls.getD j []).take (ps.getD j 0), f.d < hd Ls ps i
/-- The list from which the next is taken. -/
structure Best (Ls : List (List Fl)) (n : Nat) (ps : List Nat) (b : Nat) : Prop where
  lt : b < n
  has : has Ls ps b
  least : ∀ j, j < n → Go.Proofs.Ythhacbelbkkcmaa.has Ls ps j → hd Ls ps b ≤ hd Ls ps j ∧ (j < b → hd Ls ps b < hd Ls ps j)
theorem getD_setN (ps : List Nat) (i j v : Nat) (hj : j < ps.length) : (ps.set j v).getD i 0 = if i = j then v else ps.getD i 0 := by
  by_cases h : i = j
  · subst h; simp [List.getD, hj]
  · simp [List.getD, h, List.getElem?_set, Ne.symm h]
theorem sum_setN : ∀ (ps : List Nat) (j : Nat), j < ps.length → (ps.set j (ps.getD j 0 + 1)).sum = ps.sum + 1
  | [], j, h => by simp at h
  | p :: ps, 0, h => by simp; omega
  | p :: ps, j + 1, h => by
    have := sum_setN ps j (by simpa using h)
    simp only [List.getD_cons_succ, List.set_cons_succ, List.sum_cons, this]
    omega
theorem sum_ltN : ∀ (Ls : List (List Fl)) (ps : List Nat), ps.length = Ls.length → (∀ i, i < Ls.length → ps.getD i 0 ≤ (Ls.getD i []).length) → ps.sum ≤ ltot Ls ∧ ∀ b, b < Ls.length → ps.getD b 0 < (Ls.getD b []).length → ps.sum < ltot Ls
  | [], [], _, _ => ⟨by simp [ltot], fun b hb => by simp at hb⟩
  | [], _ :: _, h, _ => by simp at h
  | _ :: _, [], h, _ => by simp at h
  | l :: Ls, p :: ps, h, hle => by
    have ih := sum_ltN Ls ps (by simpa using h) (fun i hi => by have := hle (i + 1) (by simp; omega); simpa using this)
    have h0 := hle 0 (by simp)
    simp only [List.getD_cons_zero] at h0
    have e : ltot (l :: Ls) = l.length + ltot Ls := by simp [ltot]
    refine ⟨by rw [e]; simp only [List.sum_cons]; omega, fun b hb hlt => ?_⟩
    rw [e]
    simp only [List.sum_cons]
    cases b with
    | zero => simp only [List.getD_cons_zero] at hlt; omega
    | succ b =>
      simp only [List.getD_cons_succ] at hlt
      have := ih.2 b (by simpa using hb) hlt
      omega
theorem range_split (n b : Nat) (hb : b < n) : List.range n = List.range b ++ b :: (List.range' (b + 1) (n - (b + 1))) := by
  rw [List.range_eq_range', List.range_eq_range', show n = b + (1 + (n - (b + 1))) by omega, ← List.range'_append_1, ← List.range'_append_1]
  simp
  omega
theorem take_next' {l : List Fl} {k : Nat} (hk : k < l.length) : l.take (k + 1) = l.take k ++ [l.getD k default] := by
  rw [List.take_add_one, List.getElem?_eq_getElem hk, show l.getD k default = l[k] by simp [List.getD, hk]]; rfl
theorem onDay_appR (D : Int) (a b : List Fl) : onDay D (a ++ b) = onDay D a ++ onDay D b := by simp [onDay]
theorem flatMap_same {α β : Type} {l : List α} {f g : α → List β} (h : ∀ x ∈ l, f x = g x) : l.flatMap f = l.flatMap g := by
  induction l with
  | nil => rfl
  | cons x l ih => rw [List.flatMap_cons, List.flatMap_cons, h x (List.mem_cons_self ..), ih (fun y hy => h y (List.mem_cons_of_mem _ hy))]
theorem RM.start {Ls : List (List Fl)} {n : Nat} : RM Ls n (List.replicate n 0) [] := by
  have z : ∀ i, (List.replicate n 0).getD i 0 = 0 := fun i => by
    by_cases h : i < n
    · simp [List.getD, List.getElem?_replicate, h]
    · simp [List.getD, List.getElem?_replicate, h]
  refine ⟨by simp, fun i hi => by rw [z]; omega, by simp, List.Pairwise.nil, fun f hf => (by cases hf), fun D => ?_, fun i j h1 h2 h3 f hf => ?_⟩
  · unfold flat
    rw [flatMap_same (g := fun _ => []) (fun i _ => by rw [z]; rfl)]
    simp [onDay]
  · rw [z] at hf; simp at hf
theorem RM.step {Ls : List (List Fl)} {n : Nat} {ps : List Nat} {acc : List Fl} {b : Nat} (h : RM Ls n ps acc) (hS : ∀ i, i < n → Srt (Ls.getD i [])) (hb : Best Ls n ps b) : RM Ls n (ps.set b (ps.getD b 0 + 1)) (acc ++ [(Ls.getD b []).getD (ps.getD b 0) default]) := by
  obtain ⟨p, hp⟩ : ∃ p, ps.getD b 0 = p := ⟨_, rfl⟩
  obtain ⟨L, hL⟩ : ∃ L, Ls.getD b [] = L := ⟨_, rfl⟩
  have hbl : b < ps.length := by rw [h.len]; exact hb.lt
  have g : ∀ i, (ps.set b (p + 1)).getD i 0 = if i = b then p + 1 else ps.getD i 0 := fun i => getD_setN ps i b (p + 1) hbl
  have hpL : p < L.length := by have := hb.has; unfold has at this; rw [hp, hL] at this; exact this
  have hx : hd Ls ps b = (L.getD p default).d := by unfold hd; rw [hp, hL]
  have srtL : Srt L := by rw [← hL]; exact hS b hb.lt
  rw [hp, hL]
  obtain ⟨x, hxx⟩ : ∃ x, L.getD p default = x := ⟨_, rfl⟩
  rw [hxx] at hx ⊢
  -- the head behind
  have nx : p + 1 < L.length → x.d ≤ (L.getD (p + 1) default).d := fun q => by have := srt_at srtL (i := p) (j := p + 1) (by omega) q; rw [hxx] at this; exact this
  have hdb : has Ls (ps.set b (p + 1)) b → p + 1 < L.length ∧ hd Ls (ps.set b (p + 1)) b = (L.getD (p + 1) default).d := fun q => by
    unfold has at q; unfold hd
    rw [g b, if_pos rfl, hL] at q ⊢
    exact ⟨q, rfl⟩
  have hdo : ∀ i, i ≠ b → (has Ls (ps.set b (p + 1)) i → has Ls ps i) ∧ hd Ls (ps.set b (p + 1)) i = hd Ls ps i := fun i hi => by
    unfold has hd
    rw [g i, if_neg hi]
    exact ⟨id, rfl⟩
  have accx : ∀ f ∈ acc, f.d ≤ x.d := fun f hf => by have := h.low f hf b hb.lt hb.has; rw [hx] at this; exact this
  refine ⟨by rw [List.length_set]; exact h.len, fun i hi => ?_, ?_, ?_, ?_, fun D => ?_, ?_⟩
  · rw [g i]
    by_cases e : i = b
    · rw [if_pos e, e, hL]; omega
    · rw [if_neg e]; exact h.le i hi
  · have := sum_setN ps b hbl
    rw [hp] at this
    rw [this, List.length_append, h.cnt]
    rfl
  · refine List.pairwise_append.2 ⟨h.srt, List.pairwise_singleton _ _, fun f hf y hy => ?_⟩
    rw [List.mem_singleton.1 hy]
    exact accx f hf
  · intro f hf i hi hh
    by_cases e : i = b
    · subst e
      obtain ⟨q1, q2⟩ := hdb hh
      rw [q2]
      have := nx q1
      rcases List.mem_append.1 hf with q | q
      · have := accx f q; omega
      · rw [List.mem_singleton.1 q]; exact this
    · obtain ⟨q1, q2⟩ := hdo i e
      rw [q2]
      rcases List.mem_append.1 hf with q | q
      · exact h.low f q i hi (q1 hh)
      · rw [List.mem_singleton.1 q]
        have := (hb.least i hi (q1 hh)).1
        rw [hx] at this
        exact this
  · have sp := range_split n b hb.lt
    have e0 : flat Ls n ps D = (List.range b).flatMap (fun i => onDay D ((Ls.getD i []).take (ps.getD i 0))) ++ (onDay D (L.take p) ++ (List.range' (b + 1) (n - (b + 1))).flatMap (fun i => onDay D ((Ls.getD i []).take (ps.getD i 0)))) := by
      unfold flat; rw [sp, List.flatMap_append, List.flatMap_cons, hL, hp]
    have e1 : flat Ls n (ps.set b (p + 1)) D = (List.range b).flatMap (fun i => onDay D ((Ls.getD i []).take (ps.getD i 0))) ++ (onDay D (L.take (p + 1)) ++ (List.range' (b + 1) (n - (b + 1))).flatMap (fun i => onDay D ((Ls.getD i []).take (ps.getD i 0)))) := by
      unfold flat; rw [sp, List.flatMap_append, List.flatMap_cons, hL, g b, if_pos rfl]
      congr 1
      · exact flatMap_same fun i hi => by rw [g i, if_neg (by have := List.mem_range.1 hi; omega)]
      · congr 1
        exact flatMap_same fun i hi => by rw [g i, if_neg (by have := List.mem_range'_1.1 hi; omega)]
    rw [onDay_appR, h.day D, e0, e1, take_next' hpL, hxx, onDay_appR]
    by_cases hd : x.d = D
    · have z : (List.range' (b + 1) (n - (b + 1))).flatMap (fun i => onDay D ((Ls.getD i []).take (ps.getD i 0))) = [] := by
        rw [flatMap_same (g := fun _ => []) (fun i hi => onDay_none fun f hf => by
          have hi' := List.mem_range'_1.1 hi
          have := h.ahead b i (by omega) (by omega) hb.has f hf
          rw [hx] at this
          omega)]
        simp
      rw [z]
      simp
    · have z : onDay D [x] = [] := by rw [onDay_cons_no hd]; rfl
      rw [z]
      simp
  · intro i j hij hj hh f hf
    rw [g j] at hf
    by_cases ej : j = b
    · rw [if_pos ej, ej, hL, take_next' hpL, hxx] at hf
      have ei : i ≠ b := by omega
      obtain ⟨q1, q2⟩ := hdo i ei
      rw [q2]
      rcases List.mem_append.1 hf with q | q
      · refine h.ahead i j hij hj (q1 hh) f ?_
        rw [ej, hL, hp]; exact q
      · rw [List.mem_singleton.1 q]
        have := (hb.least i (by omega) (q1 hh)).2 (by omega)
        rw [hx] at this
        exact this
    · rw [if_neg ej] at hf
      by_cases ei : i = b
      · subst ei
        obtain ⟨q1, q2⟩ := hdb hh
        rw [q2]
        have h1 := h.ahead i j hij hj hb.has f hf
        rw [hx] at h1
        have := nx q1
        omega
      · obtain ⟨q1, q2⟩ := hdo i ei
        rw [q2]
        exact h.ahead i j hij hj (q1 hh) f hf
theorem RM.done {Ls : List (List Fl)} {n : Nat} {ps : List Nat} {acc : List Fl} (h : RM Ls n ps acc) (hn : Ls.length = n) (hd : ∀ i, i < n → ¬ has Ls ps i) : ∀ D, onDay D acc = Ls.flatMap (onDay D) := fun D => by
  rw [h.day D]
  unfold flat
  rw [flatMap_same (g := fun i => onDay D (Ls.getD i [])) (fun i hi => by
    have hi' := List.mem_range.1 hi
    have := hd i hi'
    unfold has at this
    rw [List.take_of_length_le (by omega)])]
  subst hn
  have e : Ls = (List.range Ls.length).map (fun i => Ls.getD i []) := by
    apply List.ext_getElem
    · simp
    · intro i h1 h2
      simp [List.getD, h1]
  conv => rhs; rw [e]
  rw [List.flatMap_map]
end Go.Proofs.Ythhacbelbkkcmaa
