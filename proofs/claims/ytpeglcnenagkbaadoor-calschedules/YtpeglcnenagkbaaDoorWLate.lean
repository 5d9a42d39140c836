/-
  THREE ROWS OF NUMBERS AND THE LIST OF THEM; WHAT THEY GROW TO.
-/
import Derived.Test.YtpeglcnenagkbaaDoorWSchA3
import Derived.Test.YtpeglcnenagkbaaDoorWSchB2
import Derived.Deep.RegionHeld3
namespace Go.Proofs.YtpeglcnenagkbaaDoor
open Go.RowKit
open Cal
set_option linter.unusedVariables false
set_option linter.unusedSimpArgs false

theorem infoSl : (Tryd.prog.info? 22).map (fun i => (i.zero, i.size, i.bytes)) = some (some (.slice none 0 0), 1, 24) := by kernel_rfl
theorem wp_slI {ops : Array Oper} {rest : List Oper} {o : Oper} {a : Act} {Q : Exit → Act → World → Prop} (w : World) (u : Value) (hu : u.oneCell' = true) (hgd : o.guard = none) (s x : Operand)
    (ho : o.op = .call { callee := .builtin .append, args := #[s, x], argTypes := #[73, 73] }) (base : Nat) (v : Value) (n : Nat) (vs : List Value) (hs : a.eval s = v)
    (hx : a.eval x = .slice (some ⟨w.heap.size, 0, none⟩) 1 1) (hown : w.ownsRow base 22 1 v n vs) (hl : n ≤ 1048576) (hb : base ≤ w.heap.size)
    (h : ∀ g cap w', w'.ownsRow base 22 1 (.slice (some ⟨g, 0, none⟩) (n + 1) cap) (n + 1) (vs ++ [u]) → (w.alloc (.cells #[u] 22)).grownBy w' v.ownBlock → wpList Tryd.prog ops Q rest (a.put o.dst (.slice (some ⟨g, 0, none⟩) (n + 1) cap)) w') :
    wpList Tryd.prog ops Q (o :: rest) a (w.alloc (.cells #[u] 22)) := by
  obtain ⟨i0, hi, hz0, hz1, hz2⟩ := info_parts infoSl
  refine wpList_append_lies _ hgd s x 73 ho base 22 i0 (.slice none 0 0) 1 24 Tryd.underlying73 hi hz0 hz1 hz2 rfl (by decide) v _ _ hs (hown.alloc _) ⟨w.heap.size, 0, none⟩ 1 1 [u] hx rfl ?_ ?_ (by decide) (by unfold maxLen; omega) (by omega) (by simp; omega) (w.heap.size + 1) (by simp) ?_
  · intro j v hj
    match j, hj with
    | 0, hj => simp at hj; subst hj; simp [Addr.add]
  · intro v hv
    rw [List.mem_singleton.1 hv]; exact hu
  · intro g cap w' h1 h2 h3 _
    exact h g cap w' h1 h2
theorem apart_ty {w : World} {B B' n n' : Nat} {v v' : Value} {vs : List Value} {ys : List Int} (h : w.ownsRow B 22 1 v n vs) (k : OwI w B' v' n' ys) : v'.ownBlock = none ∨ v'.ownBlock ≠ v.ownBlock := by
  rcases k.2 with ⟨rfl, _⟩ | ⟨g, c, cur, rfl, _, hg, _⟩
  · exact .inl rfl
  · right
    rcases h.2 with ⟨rfl, _⟩ | ⟨g', c', cur', rfl, _, hg', _⟩
    · simp [Value.ownBlock]
    · simp only [Value.ownBlock]
      intro e
      injection e with e
      subst e
      rw [hg] at hg'
      injection hg' with hg'
      injection hg' with _ q
      exact absurd q (by decide)
theorem ap_swap {x y : Option Nat} (h : x = none ∨ x ≠ y) : y = none ∨ y ≠ x := by
  cases y with
  | none => exact .inl rfl
  | some q =>
    right
    rcases h with rfl | h
    · simp
    · exact fun e => h e.symm
/-- What does not change about the three rows. -/
structure V3 (lb Bm S : Nat) (V : Nat → Value) (n B : Nat → Nat) : Prop where
  form : ∀ j, j < 3 → ∃ A C, V j = .slice A (n j) C
  apart : ∀ j k, j < 3 → k < 3 → j ≠ k → (V j).ownBlock = none ∨ (V j).ownBlock ≠ (V k).ownBlock
  list : ∀ j, j < 3 → (V j).ownBlock ≠ some lb
  low : ∀ j q, j < 3 → (V j).ownBlock = some q → Bm ≤ q ∧ q < S
  base : ∀ j, j < 3 → Bm ≤ B j ∧ B j ≤ S
  len : ∀ j, j < 3 → n j ≤ 109574
/-- The list of three rows, and the rows. -/
structure L3 (wr : World) (lb : Nat) (V : Nat → Value) (n B : Nat → Nat) (R : Nat → List Int) : Prop where
  cell : ∀ j, j < 3 → wr.cell? ⟨lb, j, none⟩ = some (V j)
  row : ∀ j, j < 3 → OwI wr (B j) (V j) (n j) (R j)
  lt : lb < wr.heap.size
theorem L3.step {wr w' : World} {lb Bm S : Nat} {V : Nat → Value} {n B : Nat → Nat} {R : Nat → List Int} (s : V3 lb Bm S V n B) (h : L3 wr lb V n B R) (i : Nat) (hi : i < 3) {Ri : List Int} (hg : wr.grownBy w' (V i).ownBlock) (hr : OwI w' (B i) (V i) (n i) Ri) : L3 w' lb V n B (fun j => if j = i then Ri else R j) := by
  refine ⟨fun j hj => ?_, fun j hj => ?_, Nat.lt_of_lt_of_le h.lt hg.size⟩
  · rw [← h.cell j hj]
    simp only [World.cell?]
    rw [hg.block lb h.lt (fun e => s.list i hi e.symm)]
  · by_cases e : j = i
    · subst e; simp only [if_true]; exact hr
    · simp only [if_neg e]
      exact (h.row j hj).kept hg (s.apart j i hj hi e)
theorem L3.keep {wr w' : World} {lb : Nat} {V : Nat → Value} {n B : Nat → Nat} {R : Nat → List Int} (h : L3 wr lb V n B R) {row : Option Nat} (hg : wr.grownBy w' row) (hl : some lb ≠ row) (hr : ∀ j, j < 3 → (V j).ownBlock = none ∨ (V j).ownBlock ≠ row) : L3 w' lb V n B R := by
  refine ⟨fun j hj => ?_, fun j hj => (h.row j hj).kept hg (hr j hj), Nat.lt_of_lt_of_le h.lt hg.size⟩
  rw [← h.cell j hj]
  simp only [World.cell?]
  rw [hg.block lb h.lt hl]
theorem L3.rlen {wr : World} {lb : Nat} {V : Nat → Value} {n B : Nat → Nat} {R : Nat → List Int} (h : L3 wr lb V n B R) (j : Nat) (hj : j < 3) : (R j).length = n j := by
  have := (h.row j hj).1
  rw [ics_len] at this; omega
/-- The rows, all written full. -/
def Ful3 (n : Nat → Nat) (R : Nat → List Int) (i : Nat) : Prop := ∀ j, j < i → Ful (R j) (n j) (-10 - (j : Int))
/-- The grown rows so far. -/
structure G3 (wr : World) (lb Bg S : Nat) (V : Nat → Value) (n B : Nat → Nat) (R : Nat → List Int) (i : Nat) (gv : Value) (Xs : List Value) : Prop where
  l3 : L3 wr lb V n B R
  own : wr.ownsRow Bg 22 1 gv i Xs
  gr : ∀ j, j < i → ∃ g cap Gj, Xs[j]? = some (.slice (some ⟨g, 0, none⟩) (n j + 40) cap) ∧ OwI wr (B j) (.slice (some ⟨g, 0, none⟩) (n j + 40) cap) (n j + 40) Gj ∧ Ful Gj (n j + 40) (-10 - (j : Int)) ∧ ((V j).ownBlock = some g ∨ S ≤ g)
theorem G3.step {wr wz : World} {lb Bm Bg S : Nat} {V : Nat → Value} {n B : Nat → Nat} {R : Nat → List Int} {i : Nat} {gv : Value} {Xs : List Value} (s : V3 lb Bm S V n B) (h : G3 wr lb Bg S V n B R i gv Xs) (hi : i < 3) (hg : wr.grownBy wz (V i).ownBlock) (hr : OwI wz (B i) (V i) (n i) (R i)) : G3 wz lb Bg S V n B R i gv Xs := by
  refine ⟨?_, ?_, fun j hj => ?_⟩
  · have := h.l3.step s i hi hg hr
    have e : (fun j => if j = i then R i else R j) = R := by
      funext j
      by_cases q : j = i
      · subst q; simp
      · simp [q]
    rwa [e] at this
  · exact h.own.kept hg (ap_swap (apart_ty h.own (h.l3.row i hi)))
  · obtain ⟨g, cap, Gj, a1, a2, a3, a4⟩ := h.gr j hj
    refine ⟨g, cap, Gj, a1, a2.kept hg ?_, a3, a4⟩
    right
    show some g ≠ (V i).ownBlock
    intro e
    rcases a4 with q | q
    · rcases s.apart j i (by omega) hi (by omega) with p | p
      · rw [q] at p; cases p
      · exact p (by rw [q]; exact e)
    · have := (s.low i g hi e.symm).2
      omega
theorem G3.push {wz w' : World} {lb Bm Bg S : Nat} {V : Nat → Value} {n B : Nat → Nat} {R : Nat → List Int} {i g cap gg gc : Nat} {gv : Value} {Xs : List Value} {Gi : List Int} (s : V3 lb Bm S V n B) (h : G3 wz lb Bg S V n B R i gv Xs) (hi : i < 3) (hlb : lb < Bg)
    (hX : OwI wz (B i) (.slice (some ⟨g, 0, none⟩) (n i + 40) cap) (n i + 40) Gi) (hF : Ful Gi (n i + 40) (-10 - (i : Int))) (hat : (V i).ownBlock = some g ∨ S ≤ g)
    (ho : w'.ownsRow Bg 22 1 (.slice (some ⟨gg, 0, none⟩) (i + 1) gc) (i + 1) (Xs ++ [.slice (some ⟨g, 0, none⟩) (n i + 40) cap])) (hg : (wz.alloc (.cells #[.slice (some ⟨g, 0, none⟩) (n i + 40) cap] 22)).grownBy w' gv.ownBlock) : G3 w' lb Bg S V n B R (i + 1) (.slice (some ⟨gg, 0, none⟩) (i + 1) gc) (Xs ++ [.slice (some ⟨g, 0, none⟩) (n i + 40) cap]) := by
  have own1 := h.own.alloc (.cells #[.slice (some ⟨g, 0, none⟩) (n i + 40) cap] 22)
  have al : ∀ {B n : Nat} {v : Value} {ys : List Int}, OwI wz B v n ys → OwI w' B v n ys := fun {B n v ys} q => (World.ownsRow.alloc q _).kept hg (apart_ty own1 (World.ownsRow.alloc q _))
  refine ⟨⟨fun j hj => ?_, fun j hj => al (h.l3.row j hj), ?_⟩, ho, fun j hj => ?_⟩
  · rw [← h.l3.cell j hj]
    simp only [World.cell?]
    rw [hg.block lb (Nat.lt_of_lt_of_le h.l3.lt (by simp)) (fun e => by have := (h.own.lt lb e.symm).1; omega), Below.heap_alloc wz _ lb h.l3.lt]
  · exact Nat.lt_of_lt_of_le h.l3.lt (Nat.le_trans (by simp) hg.size)
  · have lx : Xs.length = i := by have := h.own.1; omega
    by_cases e : j < i
    · obtain ⟨g1, cap1, Gj, a1, a2, a3, a4⟩ := h.gr j e
      exact ⟨g1, cap1, Gj, by rw [List.getElem?_append_left (by omega)]; exact a1, al a2, a3, a4⟩
    · have ej : j = i := by omega
      subst ej
      exact ⟨g, cap, Gi, by rw [List.getElem?_append_right (by omega), lx]; simp, al hX, hF, hat⟩
theorem ful_rep {xs : List Int} {k : Nat} {c : Int} (h : Ful xs xs.length c) : Ful (xs ++ List.replicate k c) (xs.length + k) c := fun i hi => by
  simp only [List.getD]
  by_cases e : i < xs.length
  · rw [List.getElem?_append_left e]; exact h i e
  · rw [List.getElem?_append_right (by omega), List.getElem?_replicate, if_pos (by omega)]; rfl
end Go.Proofs.YtpeglcnenagkbaaDoor

namespace Go.Proofs.YtpeglcnenagkbaaDoor
open Go.RowKit
open Cal
set_option linter.unusedVariables false
set_option linter.unusedSimpArgs false

/-- The three rows, one after the other made. -/
theorem v3_mk {va vb vc : Value} {na nb nc Ba Bb Bc Bm S : Nat} (fa : ∃ A C, va = .slice A na C) (fb : ∃ A C, vb = .slice A nb C) (fc : ∃ A C, vc = .slice A nc C)
    (ha : ∀ q, va.ownBlock = some q → Ba ≤ q ∧ q < Bb) (hb : ∀ q, vb.ownBlock = some q → Bb ≤ q ∧ q < Bc) (hc : ∀ q, vc.ownBlock = some q → Bc ≤ q ∧ q < S) (o1 : Bm ≤ Ba) (o2 : Ba ≤ Bb) (o3 : Bb ≤ Bc) (o4 : Bc ≤ S) (la : na ≤ 109574) (lb : nb ≤ 109574) (lc : nc ≤ 109574) :
    V3 S Bm S (fun j => if j = 0 then va else if j = 1 then vb else vc) (fun j => if j = 0 then na else if j = 1 then nb else nc) (fun j => if j = 0 then Ba else if j = 1 then Bb else Bc) := by
  have w3 : ∀ j, j < 3 → j = 0 ∨ j = 1 ∨ j = 2 := fun j h => by omega
  have ne : ∀ {x y : Value} {l1 h1 l2 h2 : Nat}, (∀ q, x.ownBlock = some q → l1 ≤ q ∧ q < h1) → (∀ q, y.ownBlock = some q → l2 ≤ q ∧ q < h2) → (h1 ≤ l2 ∨ h2 ≤ l1) → x.ownBlock = none ∨ x.ownBlock ≠ y.ownBlock := fun {x y l1 h1 l2 h2} p q r => by
    cases e : x.ownBlock with
    | none => exact .inl rfl
    | some k =>
      right
      intro e2
      have := p k e
      have := q k e2.symm
      omega
  refine ⟨fun j hj => ?_, fun j k hj hk hn => ?_, fun j hj => ?_, fun j q hj => ?_, fun j hj => ?_, fun j hj => ?_⟩
  · rcases w3 j hj with rfl | rfl | rfl
    · exact fa
    · exact fb
    · exact fc
  · rcases w3 j hj with rfl | rfl | rfl <;> rcases w3 k hk with rfl | rfl | rfl <;> first
      | exact absurd rfl hn
      | (exact ne ha hb (by omega))
      | (exact ne ha hc (by omega))
      | (exact ne hb ha (by omega))
      | (exact ne hb hc (by omega))
      | (exact ne hc ha (by omega))
      | (exact ne hc hb (by omega))
  · rcases w3 j hj with rfl | rfl | rfl
    · intro e; have := ha S e; omega
    · intro e; have := hb S e; omega
    · intro e; have := hc S e; omega
  · rcases w3 j hj with rfl | rfl | rfl
    · intro e; have := ha q e; exact ⟨by omega, by omega⟩
    · intro e; have := hb q e; exact ⟨by omega, by omega⟩
    · intro e; have := hc q e; exact ⟨by omega, by omega⟩
  · rcases w3 j hj with rfl | rfl | rfl
    · exact ⟨o1, by show Ba ≤ S; omega⟩
    · exact ⟨by show Bm ≤ Bb; omega, by show Bb ≤ S; omega⟩
    · exact ⟨by show Bm ≤ Bc; omega, o4⟩
  · rcases w3 j hj with rfl | rfl | rfl
    · exact la
    · exact lb
    · exact lc
theorem three_cells (w : World) (va vb vc : Value) : ∀ j, j < 3 → (w.alloc (.cells #[va, vb, vc] 22)).cell? ⟨w.heap.size, j, none⟩ = some (if j = 0 then va else if j = 1 then vb else vc) := fun j hj => by
  rw [World.cell?_alloc_at _ _ _ _ rfl]
  rcases (show j = 0 ∨ j = 1 ∨ j = 2 by omega) with rfl | rfl | rfl <;> rfl
theorem own_blk {w : World} {B : Nat} {v : Value} {L : List Int} (h : OwnD w B v L) : ∀ q, v.ownBlock = some q → B ≤ q ∧ q < w.heap.size := h.lt

set_option maxRecDepth 100000 in
set_option maxHeartbeats 8000000 in
theorem late_any (y m d y2 m2 d2 N u conv : Int) (a : Option Addr) (n cap : Nat) (ds : List Dt) (Aw : Option Addr) (Cw : Nat) (xw : Int) (cl : List Int) (w : World) (hT : Tz w) (hM : Mon w) (hH : HoD w a n cap ds) (hS : SchA y m d y2 m2 d2 N u conv ds xw cl) (hL : Ls w Aw cl.length cl) :
    Calls Tryd.prog 22 #[.agg #[.int .i64 y, .int .i64 m, .int .i64 d, .int .i64 y2, .int .i64 m2, .int .i64 d2, .int .i64 N, .int .i64 u, .int .i64 conv, .slice a n cap], .slice Aw cl.length Cw] w fun e w' => e = .returned (.bool true) ∧ Below w.heap.size w w' := by
  have P0 := Lib.hid (pb_new w y m d y2 m2 d2 N u conv a n cap)
  obtain ⟨w0, hw0⟩ : ∃ w0, w.alloc (.cells #[.int .i64 y, .int .i64 m, .int .i64 d, .int .i64 y2, .int .i64 m2, .int .i64 d2, .int .i64 N, .int .i64 u, .int .i64 conv, .slice a n cap] 40) = w0 := ⟨_, rfl⟩
  rw [hw0] at P0
  have HT := Lib.hid (p := ∀ W, Below w.heap.size w W → Tz W) (fun W b => tz_below (Nat.le_refl _) b hT)
  have HM := Lib.hid (p := ∀ W, Below w.heap.size w W → Mon W) (fun W b => mon_below (Nat.le_refl _) b hM)
  have HD := Lib.hid (p := ∀ W, Below w.heap.size w W → HoD W a n cap ds) (fun W b => hH.later b)
  have HLW := Lib.hid (p := ∀ W, Below w.heap.size w W → Ls W Aw cl.length cl) (fun W b => hL.later b)
  have HSW := Lib.hid hS
  have NW := Lib.hid hS.len
  have KO := Lib.hid (fun W (q : Below w.heap.size w W) => ownDates_full a n cap ds W (HD.out W q))
  have KS := Lib.hid (fun W A C (q : Below w.heap.size w W) (l : DL W A n ds) => schedule_full y m d y2 m2 d2 N u conv A n C ds W (HT.out W q) (HM.out W q) l)
  have KS0 := Lib.hid (fun W (q : Below w.heap.size w W) => schedule_full y m d y2 m2 d2 N u 0 none 0 0 [] W (HT.out W q) (HM.out W q) ⟨rfl, by omega, .inl rfl⟩)
  have KR0 := Lib.hid (fun W => rschedule_any y m d y2 m2 d2 N u 0 none 0 0 [] W ⟨rfl, by omega, .inl rfl⟩)
  have KSM := Lib.hid (fun W A B C1 C2 (zs : List Int) (hn : zs.length ≤ 109574) (h1 : Ls W A zs.length zs) (h2 : Ls W B zs.length zs) => same_ls A B zs.length C1 C2 zs W (by omega) h1 h2)
  clear hT hM hH hS hL
  obtain ⟨c0, c1, c2, c3, c4, c5, c6, c7, c8, c9, _, _⟩ := P0.out
  go_enter Tryd.func22, Tryd.ntmps22
  go_wp2_with fail
  try simp only [hw0]
  clear hw0
  go_at_call 21
  refine (KR0.out w0).mono ?_
  rintro e w1 ⟨hs, b1⟩
  obtain ⟨Ao, Co, xo, clo, rfl, hAo, _, hlo, hbo⟩ := sch_row hs
  have P1 := Lib.hid (P0.out.later b1)
  have B01 := Lib.hid b1
  have HAo := Lib.hid hAo
  have HLo := Lib.hid (p := ∀ W, Below w1.heap.size w1 W → Ls W Ao clo.length clo) (fun W b => hlo.later b)
  have NO := Lib.hid hbo
  clear hs b1 hAo hlo hbo c0 c1 c2 c3 c4 c5 c6 c7 c8 c9
  obtain ⟨c0, c1, c2, c3, c4, c5, c6, c7, c8, c9, _, _⟩ := P1.out
  go_wp2_with fail
  go_region_held3 (fun w' => w'.cell? ⟨w.heap.size, 0, none⟩ = some (.int .i64 y) ∧ w'.cell? ⟨w.heap.size, 1, none⟩ = some (.int .i64 m) ∧ w'.cell? ⟨w.heap.size, 2, none⟩ = some (.int .i64 d) ∧ w'.cell? ⟨w.heap.size, 3, none⟩ = some (.int .i64 y2) ∧ w'.cell? ⟨w.heap.size, 4, none⟩ = some (.int .i64 m2) ∧ w'.cell? ⟨w.heap.size, 5, none⟩ = some (.int .i64 d2) ∧ w'.cell? ⟨w.heap.size, 6, none⟩ = some (.int .i64 N) ∧ w'.cell? ⟨w.heap.size, 7, none⟩ = some (.int .i64 u) ∧ w'.cell? ⟨w.heap.size, 8, none⟩ = some (.int .i64 conv) ∧ w'.cell? ⟨w.heap.size, 9, none⟩ = some (.slice a n cap))
    (refine ⟨?_, ?_, ?_, ?_, ?_, ?_, ?_, ?_, ?_, ?_⟩ <;> first | assumption | (go_simp; done))
    (first
    | (go_at_call 15; refine (KO.out _ P1.out.drew.bel).mono ?_; rintro e w2 ⟨Ia, Ja, rfl, b2, l2, _⟩; have P2 := Lib.hid (P1.out.drew.later b2); have L2 := Lib.hid l2; have R2 := Lib.hid (p := Below w1.heap.size w1 w2) ⟨b2.os, b2.tape, b2.output, b2.size, b2.block⟩; clear b2 l2 c0 c1 c2 c3 c4 c5 c6 c7 c8 c9; obtain ⟨c0, c1, c2, c3, c4, c5, c6, c7, c8, c9, _, _⟩ := P2.out)
    | (go_at_call 14; refine (KS.out _ _ _ P2.out.bel L2.out).mono ?_; rintro e w3 ⟨hs, b3⟩; obtain ⟨Aa, Ca, xa, cla, rfl, hAa, hoa, hla, _⟩ := sch_row hs; obtain ⟨rfl, rfl⟩ := SchA.one HSW.out hAa; have P3 := Lib.hid (P2.out.later b3); have R3 := Lib.hid b3; have Oa := Lib.hid hoa; have Ea := Lib.hid hla; clear hs b3 hAa hoa hla c0 c1 c2 c3 c4 c5 c6 c7 c8 c9; obtain ⟨c0, c1, c2, c3, c4, c5, c6, c7, c8, c9, _, _⟩ := P3.out))
  go_wp2_with fail
  go_at_call 14
  refine (KS0.out w3 P3.out.bel).mono ?_
  rintro e w4 ⟨hs, b4⟩
  obtain ⟨Ab, Cb, xb, clb, rfl, hAb, hob, hlb, _⟩ := sch_row hs
  obtain ⟨rfl, rfl⟩ := SchA.one HAo.out hAb
  have P4 := Lib.hid (P3.out.later b4)
  have R4 := Lib.hid b4
  have Ob := Lib.hid hob
  have Eb := Lib.hid hlb
  clear hs b4 hAb hob hlb c0 c1 c2 c3 c4 c5 c6 c7 c8 c9
  obtain ⟨c0, c1, c2, c3, c4, c5, c6, c7, c8, c9, _, _⟩ := P4.out
  go_wp2_with fail
  go_region_held3 (fun w' => w'.cell? ⟨w.heap.size, 0, none⟩ = some (.int .i64 y) ∧ w'.cell? ⟨w.heap.size, 1, none⟩ = some (.int .i64 m) ∧ w'.cell? ⟨w.heap.size, 2, none⟩ = some (.int .i64 d) ∧ w'.cell? ⟨w.heap.size, 3, none⟩ = some (.int .i64 y2) ∧ w'.cell? ⟨w.heap.size, 4, none⟩ = some (.int .i64 m2) ∧ w'.cell? ⟨w.heap.size, 5, none⟩ = some (.int .i64 d2) ∧ w'.cell? ⟨w.heap.size, 6, none⟩ = some (.int .i64 N) ∧ w'.cell? ⟨w.heap.size, 7, none⟩ = some (.int .i64 u) ∧ w'.cell? ⟨w.heap.size, 8, none⟩ = some (.int .i64 conv) ∧ w'.cell? ⟨w.heap.size, 9, none⟩ = some (.slice a n cap))
    (refine ⟨?_, ?_, ?_, ?_, ?_, ?_, ?_, ?_, ?_, ?_⟩ <;> first | assumption | (go_simp; done))
    (first
    | (go_at_call 15; refine (KO.out _ P4.out.drew.bel).mono ?_; rintro e w5 ⟨Ic, Jc, rfl, b5, l5, _⟩; have P5 := Lib.hid (P4.out.drew.later b5); have L5 := Lib.hid l5; have R5 := Lib.hid (p := Below w4.heap.size w4 w5) ⟨b5.os, b5.tape, b5.output, b5.size, b5.block⟩; clear b5 l5 c0 c1 c2 c3 c4 c5 c6 c7 c8 c9; obtain ⟨c0, c1, c2, c3, c4, c5, c6, c7, c8, c9, _, _⟩ := P5.out)
    | (go_at_call 14; refine (KS.out _ _ _ P5.out.bel L5.out).mono ?_; rintro e w6 ⟨hs, b6⟩; obtain ⟨Ac, Cc, xc, clc, rfl, hAc, hoc, hlc, _⟩ := sch_row hs; obtain ⟨rfl, rfl⟩ := SchA.one HSW.out hAc; have P6 := Lib.hid (P5.out.later b6); have R6 := Lib.hid b6; have Oc := Lib.hid hoc; have Ec := Lib.hid hlc; clear hs b6 hAc hoc hlc c0 c1 c2 c3 c4 c5 c6 c7 c8 c9; obtain ⟨c0, c1, c2, c3, c4, c5, c6, c7, c8, c9, _, _⟩ := P6.out))
  have P01 := Lib.hid (p := w0.heap.size ≤ w1.heap.size) B01.out.size
  have Q46 := Lib.hid (p := Below w4.heap.size w4 w6) (R5.out.trans (R6.out.mono R5.out.size))
  have Q36 := Lib.hid (p := Below w3.heap.size w3 w6) (R4.out.trans (Q46.out.mono R4.out.size))
  have Q16 := Lib.hid (p := Below w1.heap.size w1 w6) ((R2.out.trans (R3.out.mono R2.out.size)).trans (Q36.out.mono (R2.out.trans (R3.out.mono R2.out.size)).size))
  have KA6 := Lib.hid (KSM.out w6 Aa Aw Ca Cw cl NW.out (Ea.out.later Q36.out) (HLW.out w6 P6.out.bel))
  have KB6 := Lib.hid (fun W (b : Below w6.heap.size w6 W) => KSM.out W Ab Ao Cb Co clo NO.out (Eb.out.later (Q46.out.trans (b.mono Q46.out.size))) (HLo.out W (Q16.out.trans (b.mono Q16.out.size))))
  have KC6 := Lib.hid (fun W (b : Below w6.heap.size w6 W) => KSM.out W Ac Aw Cc Cw cl NW.out (Ec.out.later b) (HLW.out W (P6.out.bel.trans (b.mono P6.out.bel.size))))
  obtain ⟨na, hna⟩ : ∃ na, cl.length = na := ⟨_, rfl⟩
  obtain ⟨nb, hnb⟩ : ∃ nb, clo.length = nb := ⟨_, rfl⟩
  have HNA := Lib.hid (And.intro hna hnb)
  rw [hna] at KA6 KC6
  rw [hnb] at KB6
  rw [hna, hnb]
  clear hna hnb c0 c1 c2 c3 c4 c5 c6 c7 c8 c9
  go_wp2_with fail
  go_at_call 24
  refine KA6.out.mono ?_
  rintro e w7 ⟨rfl, b7⟩
  have R7 := Lib.hid b7
  have KB7 := Lib.hid (KB6.out w7 b7)
  clear b7 KA6
  go_wp2_with fail
  go_at_call 24
  refine KB7.out.mono ?_
  rintro e w8 ⟨rfl, b8⟩
  have R8 := Lib.hid (p := Below w6.heap.size w6 w8) (R7.out.trans (b8.mono R7.out.size))
  have KC8 := Lib.hid (KC6.out w8 R8.out)
  clear b8 KB7 KB6 R7
  go_wp2_with fail
  go_at_call 24
  refine KC8.out.mono ?_
  rintro e w9 ⟨rfl, b9⟩
  have R9 := Lib.hid (p := Below w6.heap.size w6 w9) (R8.out.trans (b9.mono R8.out.size))
  clear b9 KC8 KC6 R8
  -- the three rows
  have S9 := Lib.hid (v3_mk (va := .slice Aa na Ca) (vb := .slice Ab nb Cb) (vc := .slice Ac na Cc) (na := na) (nb := nb) (nc := na) (Ba := w2.heap.size) (Bb := w3.heap.size) (Bc := w5.heap.size) (Bm := w0.heap.size) (S := w9.heap.size) ⟨_, _, rfl⟩ ⟨_, _, rfl⟩ ⟨_, _, rfl⟩
    (by rw [← HNA.out.1]; exact own_blk Oa.out) (by rw [← HNA.out.2]; exact fun q e => ⟨(own_blk Ob.out q e).1, Nat.lt_of_lt_of_le (own_blk Ob.out q e).2 R5.out.size⟩) (by rw [← HNA.out.1]; exact fun q e => ⟨(own_blk Oc.out q e).1, Nat.lt_of_lt_of_le (own_blk Oc.out q e).2 R9.out.size⟩)
    (Nat.le_trans (P01.out) R2.out.size) R3.out.size (Nat.le_trans R4.out.size R5.out.size) (Nat.le_trans R6.out.size R9.out.size) (by rw [← HNA.out.1]; exact NW.out) (by rw [← HNA.out.2]; exact NO.out) (by rw [← HNA.out.1]; exact NW.out))
  have kp : ∀ {W W' : World} {B k : Nat} {v : Value} {L : List Int}, OwI W B v k L → Below W.heap.size W W' → OwI W' B v k L := fun {W W' B k v L} h b => World.ownsRow.kept h (row := none) ⟨b.os, b.tape, b.output, b.size, fun k hk _ => b.block k hk⟩ (Classical.em _)
  have Q39 := Lib.hid (p := Below w3.heap.size w3 w9) (Q36.out.trans (R9.out.mono Q36.out.size))
  have Q49 := Lib.hid (p := Below w4.heap.size w4 w9) (Q46.out.trans (R9.out.mono Q46.out.size))
  have T3 := Lib.hid (p := L3 (w9.alloc (.cells #[.slice Aa na Ca, .slice Ab nb Cb, .slice Ac na Cc] 22)) w9.heap.size (fun j => if j = 0 then .slice Aa na Ca else if j = 1 then .slice Ab nb Cb else .slice Ac na Cc) (fun j => if j = 0 then na else if j = 1 then nb else na) (fun j => if j = 0 then w2.heap.size else if j = 1 then w3.heap.size else w5.heap.size) (fun j => if j = 0 then cl else if j = 1 then clo else cl)) (by
    refine ⟨three_cells w9 _ _ _, fun j hj => ?_, by simp⟩
    rcases (show j = 0 ∨ j = 1 ∨ j = 2 by omega) with rfl | rfl | rfl
    · have := World.ownsRow.alloc (kp Oa.out Q39.out) (.cells #[.slice Aa na Ca, .slice Ab nb Cb, .slice Ac na Cc] 22)
      rw [HNA.out.1] at this; exact this
    · have := World.ownsRow.alloc (kp Ob.out Q49.out) (.cells #[.slice Aa na Ca, .slice Ab nb Cb, .slice Ac na Cc] 22)
      rw [HNA.out.2] at this; exact this
    · have := World.ownsRow.alloc (kp Oc.out R9.out) (.cells #[.slice Aa na Ca, .slice Ab nb Cb, .slice Ac na Cc] 22)
      rw [HNA.out.1] at this; exact this)
  clear kp
  have P09 := Lib.hid (p := Below w0.heap.size w0 w9) (B01.out.trans ((Q16.out.trans (R9.out.mono Q16.out.size)).mono B01.out.size))
  have B9 := Lib.hid (p := Below w0.heap.size w0 (w9.alloc (.cells #[.slice Aa na Ca, .slice Ab nb Cb, .slice Ac na Cc] 22))) (P09.out.alloc P09.out.size _)
  obtain ⟨wA, hwA⟩ : ∃ wA, w9.alloc (.cells #[.slice Aa na Ca, .slice Ab nb Cb, .slice Ac na Cc] 22) = wA := ⟨_, rfl⟩
  rw [hwA] at T3 B9
  have SA := Lib.hid (p := w9.heap.size < wA.heap.size) (by rw [← hwA]; simp)
  obtain ⟨lb, hlb⟩ : ∃ lb, w9.heap.size = lb := ⟨_, rfl⟩
  rw [hlb] at T3 S9 SA
  obtain ⟨V, n3, B3, R0, S3, L30⟩ : ∃ V n B R, RowKit.Hid (V3 lb w0.heap.size lb V n B) ∧ RowKit.Hid (L3 wA lb V n B R) := ⟨_, _, _, _, S9.out, T3.out⟩
  clear T3 S9
  go_wp2_with fail
  try simp only [hwA]
  try simp only [hlb]
  clear hwA hlb
  have P0S := Lib.hid (p := Below w.heap.size w w0) P0.out.bel
  clear P0 HT HM HD HLW HSW NW KO KS KS0 KR0 KSM HAo HLo NO P1 P3 P4 P6 B01 Q16 Q36 Q46 Q39 Q49 R2 R3 R4 R5 R6 R9 Oa Ob Oc Ea Eb Ec HNA P01 P09 P2 P5 L2 L5
  go_loopw [14] (fun t wr => ∃ i : Nat, i ≤ 3 ∧ t = .int .i64 (i : Int) ∧ RowKit.Hid (∃ R, L3 wr lb V n3 B3 R ∧ Ful3 n3 R i) ∧ Below w0.heap.size w0 wr) (fun t _ => 3 - (intOf t).toNat)
  case atStart => exact ⟨0, by omega, rfl, ⟨R0, L30.out, fun j hj => absurd hj (by omega)⟩, B9.out⟩
  case round =>
    obtain ⟨i, hi, rfl, hR, hB⟩ := hrel
    rename World => wr
    have BB := Lib.hid hB
    by_cases hlt : i < 3
    · obtain ⟨Ai, Ci, hVi⟩ := S3.out.form i hlt
      have HVi := Lib.hid hVi
      have nib := S3.out.len i hlt
      obtain ⟨ni, hni⟩ : ∃ ni, n3 i = ni := ⟨_, rfl⟩
      rw [hni] at nib
      have HNI := Lib.hid hni
      obtain ⟨cv, hcv⟩ : ∃ cv, -10 - (i : Int) = cv := ⟨_, rfl⟩
      have HCV := Lib.hid hcv
      have kwv : IntKind.i64.wrap (-10 - (i : Int)) = cv := by rw [← hcv]; simp [IntKind.wrap, IntKind.bits, IntKind.signed]; omega
      have kc : (i : Int) < 3 := by omega
      have kwi : IntKind.i64.wrap ((i : Int) + 1) = (i : Int) + 1 := by simp [IntKind.wrap, IntKind.bits, IntKind.signed]; omega
      clear hB hVi hni hcv
      go_wp2_with fail
      go_loopw [15] (fun t wz => ∃ k : Nat, k ≤ ni ∧ t = .int .i64 (k : Int) ∧ RowKit.Hid (∃ R, L3 wz lb V n3 B3 R ∧ Ful3 n3 R i ∧ Ful (R i) k cv) ∧ Below w0.heap.size w0 wz) (fun t _ => ni - (intOf t).toNat)
      case atStart =>
        obtain ⟨R, q1, q2⟩ := hR.out
        exact ⟨0, by omega, rfl, ⟨R, q1, q2, fun j hj => absurd hj (by omega)⟩, BB.out⟩
      case round =>
        obtain ⟨k, hk, rfl, hQ, hZ⟩ := hrel
        rename World => wz
        have BZ := Lib.hid hZ
        obtain ⟨R, l3, f3, fi⟩ := hQ.out
        have cc := l3.cell i hlt
        have rw_ := l3.row i hlt
        have rl := l3.rlen i hlt
        rw [HVi.out, HNI.out] at cc
        rw [HVi.out, HNI.out] at rw_
        rw [HNI.out] at rl
        by_cases hk2 : k < ni
        · obtain ⟨g, rfl⟩ : ∃ g, Ai = some ⟨g, 0, none⟩ := by
            rcases rw_.2 with ⟨_, q2⟩ | ⟨g, cp, cur, q, _⟩
            · omega
            · injection q with q _ _; exact ⟨g, q⟩
          have hwi := OwR.wi (xs := R i) rw_ rl
          have s1 := (hwi.2 k (by omega)).1
          have s2 := (hwi.2 k (by omega)).2
          have st := World.ownsRow.stored rw_ k (.int .i64 cv)
          have hgb : w0.heap.size ≤ g := (S3.out.low i g hlt (by rw [HVi.out]; rfl)).1
          have L3n := Lib.hid (p := L3 (wz.setCell ⟨g, k, none⟩ (.int .i64 cv)) lb V n3 B3 (fun j => if j = i then (R i).set k cv else R j)) (l3.step S3.out i hlt (Ri := (R i).set k cv) (by rw [HVi.out]; exact st.2) (by
            rw [HVi.out, HNI.out]
            have := st.1
            show World.ownsRow _ _ _ _ _ _ (ics ((R i).set k cv))
            unfold ics at this ⊢
            rwa [← List.map_set] at this))
          have F3n := Lib.hid (p := Ful3 n3 (fun j => if j = i then (R i).set k cv else R j) i) (fun j hj => by simp only [if_neg (show ¬ j = i by omega)]; exact f3 j hj)
          have FIn := Lib.hid (p := Ful ((fun j => if j = i then (R i).set k cv else R j) i) (k + 1) cv) (by simp only [if_true]; exact fi.set (by omega))
          generalize (R i).getD k 0 = old at s1
          have kck : (k : Int) < (ni : Int) := by omega
          have kwk : IntKind.i64.wrap ((k : Int) + 1) = (k : Int) + 1 := by simp [IntKind.wrap, IntKind.bits, IntKind.signed]; omega
          have lg : ¬ lb = g := fun e => S3.out.list i hlt (by rw [HVi.out, e]; rfl)
          clear l3 f3 fi rw_ rl hwi st hZ hQ
          go_wp2
          go_roundw
          case rel => exact ⟨k + 1, by omega, by first | rfl | simp, ⟨_, L3n.out, F3n.out, FIn.out⟩, BZ.out.setCell (p := ⟨g, k, none⟩) hgb _⟩
          case measure => simp [intOf]; omega
        · obtain rfl : k = ni := by omega
          have kck : ¬ (k : Int) < (k : Int) := by omega
          have NX := Lib.hid (p := ∃ R, L3 wz lb V n3 B3 R ∧ Ful3 n3 R (i + 1)) ⟨R, l3, fun j hj => by
            by_cases e : j = i
            · subst e; rw [HNI.out, HCV.out]; exact fi
            · exact f3 j (by omega)⟩
          clear l3 f3 fi rw_ rl hZ hQ
          go_wp2
          go_roundw
          case rel => exact ⟨i + 1, by omega, by first | rfl | simp, NX.out, BZ.out⟩
          case measure => simp [intOf]; omega
    · obtain rfl : i = 3 := by omega
      have kc : ¬ ((3 : Nat) : Int) < 3 := by omega
      have GS := Lib.hid (p := ∃ R, G3 wr lb wr.heap.size lb V n3 B3 R 0 (.slice none 0 0) [] ∧ Ful3 n3 R 3) (by
        obtain ⟨R, l3, f3⟩ := hR.out
        exact ⟨R, ⟨l3, World.ownsRow_nil _ _ _ _, fun j hj => absurd hj (by omega)⟩, f3⟩)
      have LBR := Lib.hid (p := lb < wr.heap.size) (by obtain ⟨R, l3, _⟩ := hR.out; exact l3.lt)
      clear hR hB
      go_wp2_with fail
      go_loopw [16, 17] (fun v t wz => ∃ (i : Nat) (Xs : List Value), i ≤ 3 ∧ t = .int .i64 (i : Int) ∧ RowKit.Hid (∃ R, G3 wz lb wr.heap.size lb V n3 B3 R i v Xs ∧ Ful3 n3 R 3) ∧ Below w0.heap.size w0 wz ∧ wr.heap.size ≤ wz.heap.size) (fun _ t _ => 3 - (intOf t).toNat)
      case atStart => exact ⟨0, [], by omega, rfl, GS.out, BB.out, Nat.le_refl _⟩
      case round =>
        obtain ⟨i, Xs, hi, rfl, hG, hB, hsz⟩ := hrel
        rename World => wz
        have BZ := Lib.hid hB
        obtain ⟨R, g3, f3⟩ := hG.out
        have HG := Lib.hid g3
        have HF := Lib.hid f3
        by_cases hlt : i < 3
        · obtain ⟨Ai, Ci, hVi⟩ := S3.out.form i hlt
          have HVi := Lib.hid hVi
          have nib := S3.out.len i hlt
          obtain ⟨ni, hni⟩ : ∃ ni, n3 i = ni := ⟨_, rfl⟩
          rw [hni] at nib
          have HNI := Lib.hid hni
          obtain ⟨cv, hcv⟩ : ∃ cv, -10 - (i : Int) = cv := ⟨_, rfl⟩
          have HCV := Lib.hid hcv
          have kwv : IntKind.i64.wrap (-10 - (i : Int)) = cv := by rw [← hcv]; simp [IntKind.wrap, IntKind.bits, IntKind.signed]; omega
          have kc : (i : Int) < 3 := by omega
          have kwi : IntKind.i64.wrap ((i : Int) + 1) = (i : Int) + 1 := by simp [IntKind.wrap, IntKind.bits, IntKind.signed]; omega
          have cc := g3.l3.cell i hlt
          rw [hVi, hni] at cc
          have r0 := g3.l3.row i hlt
          rw [hVi, hni] at r0
          have rl := g3.l3.rlen i hlt
          rw [hni] at rl
          have fi : Ful (R i) (R i).length cv := by have := f3 i hlt; rw [hcv, hni] at this; rw [rl]; exact this
          have B3i := S3.out.base i hlt
          have E0 := Lib.hid (Ext.start r0)
          have RL := Lib.hid rl
          have FI := Lib.hid fi
          clear hB hVi hni hcv g3 f3 hG r0 rl fi
          go_wp2_with fail
          go_loopw [18, 19] (fun x t wx => ∃ k : Nat, k ≤ 40 ∧ t = .int .i64 (k : Int) ∧ RowKit.Hid (Ext (B3 i) wz (.slice Ai ni Ci) ni (R i) wx x (ni + k) (R i ++ List.replicate k cv))) (fun _ t _ => 40 - (intOf t).toNat)
          case atStart => exact ⟨0, by omega, rfl, by show Ext _ _ _ _ _ _ _ _ _; simpa using E0.out⟩
          case round =>
            obtain ⟨k, hk, rfl, hE⟩ := hrel
            rename World => wx
            have wxs : wz.heap.size ≤ wx.heap.size := hE.out.grown.size
            by_cases hk2 : k < 40
            · have kck : (k : Int) < 40 := by omega
              have kwk : IntKind.i64.wrap ((k : Int) + 1) = (k : Int) + 1 := by simp [IntKind.wrap, IntKind.bits, IntKind.signed]; omega
              have sbase : B3 i ≤ wx.heap.size := by have := LBR.out; omega
              have HE := Lib.hid hE.out
              clear hE
              go_wp2_with (at_builtin; refine wp_intK _ _ rfl _ _ rfl (B3 i) _ (ni + k) (R i ++ List.replicate k cv) rfl rfl HE.out.own (by omega) sbase ?_; intro v6 w6 e6; have E6 := Lib.hid (HE.out.step e6); clear e6)
              go_roundw
              case rel => exact ⟨k + 1, by omega, by first | rfl | simp, by
                have e := E6.out
                rw [List.append_assoc, ← List.replicate_succ'] at e
                exact e⟩
              case measure => simp [intOf]; omega
            · obtain rfl : k = 40 := by omega
              have kck : ¬ ((40 : Nat) : Int) < 40 := by omega
              have own40 := hE.out.own
              obtain ⟨g, cp, hX⟩ := ownsRow_succ (k := ni + 39) own40
              rw [show ni + 39 + 1 = ni + 40 by omega] at hX
              subst hX
              have GX := Lib.hid (p := G3 wx lb wr.heap.size lb V n3 B3 R i _ Xs) (HG.out.step S3.out hlt (by rw [HVi.out, HNI.out]; exact hE.out.grown) (by rw [HVi.out, HNI.out]; exact hE.out.old))
              have FX := Lib.hid (p := Ful (R i ++ List.replicate 40 cv) (ni + 40) cv) (by have := ful_rep (k := 40) FI.out; rwa [RL.out] at this)
              have AX := Lib.hid (p := (V i).ownBlock = some g ∨ lb ≤ g) (by
                rcases hE.out.at_ with q | ⟨g', q, q2⟩
                · left; rw [HVi.out, HNI.out]; exact q.symm
                · right
                  have e : g = g' := by simpa [Value.ownBlock] using q
                  have := LBR.out; omega)
              have OX := Lib.hid own40
              have BX := Lib.hid (p := Below w0.heap.size w0 wx) (BZ.out.grown hE.out.grown BZ.out.size (fun q e => (S3.out.low i q hlt (by rw [HVi.out, HNI.out]; exact e)).1))
              have XL := Lib.hid (p := wr.heap.size ≤ wx.heap.size) (by omega)
              clear hE own40
              go_wp2_with (at_builtin; refine wp_slI _ _ rfl rfl _ _ rfl wr.heap.size _ i Xs rfl rfl GX.out.own (by omega) XL.out ?_; intro gg gc w7 o7 g7; have G7 := Lib.hid (GX.out.push S3.out hlt LBR.out (Gi := R i ++ List.replicate 40 cv) (g := g) (cap := cp) (by rw [HNI.out]; exact OX.out) (by rw [HNI.out, HCV.out]; exact FX.out) AX.out (by rw [HNI.out]; exact o7) (by rw [HNI.out]; exact g7)); have B7 := Lib.hid (p := Below w0.heap.size w0 w7) ((BX.out.alloc BX.out.size _).grown g7 (Nat.le_trans BX.out.size (by simp)) (fun q e => Nat.le_trans BB.out.size (GX.out.own.lt q e).1)); have Z7 := Lib.hid (p := wr.heap.size ≤ w7.heap.size) (Nat.le_trans XL.out (Nat.le_trans (by simp) g7.size)); clear o7 g7)
              go_roundw
              case rel => exact ⟨i + 1, _, by omega, by first | rfl | simp, ⟨R, by have := G7.out; rwa [HNI.out] at this, HF.out⟩, B7.out, Z7.out⟩
              case measure => simp [intOf]; omega
        · obtain rfl : i = 3 := by omega
          have kc : ¬ ((3 : Nat) : Int) < 3 := by omega
          obtain ⟨gg, gc, hgv⟩ := ownsRow_succ (k := 2) g3.own
          subst hgv
          have BW := Lib.hid (p := Below w.heap.size w wz) (P0S.out.trans (hB.mono P0S.out.size))
          clear hG hB g3 f3
          go_wp2_with fail
          go_loopw [20] (fun t wk => ∃ i : Nat, i ≤ 3 ∧ t = .int .i64 (i : Int) ∧ wk = wz) (fun t _ => 3 - (intOf t).toNat)
          case atStart => exact ⟨0, by omega, rfl, rfl⟩
          case round =>
            obtain ⟨i, hi, rfl, hwk⟩ := hrel
            subst hwk
            rename World => wk
            by_cases hlt : i < 3
            · obtain ⟨Ai, Ci, hVi⟩ := S3.out.form i hlt
              obtain ⟨g, cp, Gj, a1, a2, a3, _⟩ := HG.out.gr i hlt
              have c1 := (HG.out.own.cellAt i (by omega)).trans a1
              have c2 := HG.out.l3.cell i hlt
              have r2 := HG.out.l3.row i hlt
              have rl := HG.out.l3.rlen i hlt
              have ff := HF.out i hlt
              have nib := S3.out.len i hlt
              rw [hVi] at c2 r2
              obtain ⟨ni, hni⟩ : ∃ ni, n3 i = ni := ⟨_, rfl⟩
              rw [hni] at c1 c2 r2 rl ff a2 a3 nib
              obtain ⟨cv, hcv⟩ : ∃ cv, -10 - (i : Int) = cv := ⟨_, rfl⟩
              rw [hcv] at a3 ff
              have kwv : IntKind.i64.wrap (-10 - (i : Int)) = cv := by rw [← hcv]; simp [IntKind.wrap, IntKind.bits, IntKind.signed]; omega
              have kc : (i : Int) < 3 := by omega
              have kwi : IntKind.i64.wrap ((i : Int) + 1) = (i : Int) + 1 := by simp [IntKind.wrap, IntKind.bits, IntKind.signed]; omega
              have gl : Gj.length = ni + 40 := by have := a2.1; rw [ics_len] at this; omega
              have hwg := OwR.wi (xs := Gj) a2 gl
              have CG := Lib.hid (p := ∀ k, k < ni + 40 → wk.cell? ⟨g, k, none⟩ = some (.int .i64 cv)) (fun k hk => by rw [(hwg.2 k (by omega)).1, a3 k hk])
              have R2 := Lib.hid r2
              have FF := Lib.hid ff
              have RL := Lib.hid rl
              clear hVi a1 a2 a3 r2 rl ff hni hcv gl hwg
              go_wp2_with fail
              go_loopw [21] (fun t wy => ∃ k : Nat, k ≤ ni + 40 ∧ t = .int .i64 (k : Int) ∧ wy = wk) (fun t _ => ni + 40 - (intOf t).toNat)
              case atStart => exact ⟨0, by omega, rfl, rfl⟩
              case round =>
                obtain ⟨k, hk, rfl, hwy⟩ := hrel
                subst hwy
                rename World => wy
                by_cases hk2 : k < ni + 40
                · have e1 := CG.out k hk2
                  have kck : (k : Int) < (ni : Int) + 40 := by omega
                  have kwk : IntKind.i64.wrap ((k : Int) + 1) = (k : Int) + 1 := by simp [IntKind.wrap, IntKind.bits, IntKind.signed]; omega
                  by_cases hk3 : k < ni
                  · obtain ⟨g2, rfl⟩ : ∃ g, Ai = some ⟨g, 0, none⟩ := by
                      rcases R2.out.2 with ⟨_, q2⟩ | ⟨g, cp, cur, q, _⟩
                      · omega
                      · injection q with q _ _; exact ⟨g, q⟩
                    have hw2 := OwR.wi (xs := R i) R2.out RL.out
                    have e2 := (hw2.2 k (by have := RL.out; omega)).1
                    rw [FF.out k hk3] at e2
                    have kd1 : (k : Int) < (ni : Int) := by omega
                    have kd2 : decide ((k : Int) < (ni : Int)) = true := decide_eq_true (by omega)
                    have kd3 : decide (k < ni) = true := decide_eq_true hk3
                    clear hw2
                    go_wp2
                    go_roundw
                    case rel => exact ⟨k + 1, by omega, by first | rfl | simp, by trivial⟩
                    case measure => simp [intOf]; omega
                  · have kd2 : decide ((k : Int) < (ni : Int)) = false := decide_eq_false (by omega)
                    have kd3 : decide (k < ni) = false := decide_eq_false hk3
                    have kd4 : (k < ni) = False := eq_false hk3
                    have kd5 : ((k : Int) < (ni : Int)) = False := eq_false (by omega)
                    clear hk3
                    go_wp2
                    go_roundw
                    case rel => exact ⟨k + 1, by omega, by first | rfl | simp, by trivial⟩
                    case measure => simp [intOf]; omega
                · obtain rfl : k = ni + 40 := by omega
                  have kck : ¬ ((ni : Int) + 40) < (ni : Int) + 40 := by omega
                  go_wp2
                  go_roundw
                  case rel => exact ⟨i + 1, by omega, by first | rfl | simp, by trivial⟩
                  case measure => simp [intOf]; omega
            · obtain rfl : i = 3 := by omega
              have kc : ¬ ((3 : Nat) : Int) < 3 := by omega
              go_wp2
              go_ret
              exact ⟨rfl, BW.out⟩
end Go.Proofs.YtpeglcnenagkbaaDoor

namespace Go.Proofs.YtpeglcnenagkbaaDoor
open Go.RowKit
open Cal

theorem calSchedules_walk (y m d y2 m2 d2 N u conv : Int) (a : Option Addr) (n cap : Nat) (ds : List Dt) (w : World) (hT : Tz w) (hM : Mon w) (hH : HoD w a n cap ds) :
    Calls Tryd.prog 6 #[.agg #[.int .i64 y, .int .i64 m, .int .i64 d, .int .i64 y2, .int .i64 m2, .int .i64 d2, .int .i64 N, .int .i64 u, .int .i64 conv, .slice a n cap]] w fun e w' => e = .returned (.bool true) ∧ Below w.heap.size w w' :=
  calSchedules_of y m d y2 m2 d2 N u conv a n cap ds w hT hM hH (fun W Aw Cw x cl b hS hL => late_any y m d y2 m2 d2 N u conv a n cap ds Aw Cw x cl W (tz_below (Nat.le_refl _) b hT) (mon_below (Nat.le_refl _) b hM) (hH.later b) hS hL)
end Go.Proofs.YtpeglcnenagkbaaDoor
