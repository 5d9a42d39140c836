/-
  WALK: legs: what an expression comes to (look).
-/
import Derived.Test.YtjlnbhmiahegmaaWXV5
namespace Go.Proofs.Ytjlnbhmiahegmaa
open Go.RowKit
set_option linter.unusedVariables false
set_option linter.unusedSimpArgs false

theorem leave {G X : Prop} (main : G) (dead : False → X) : G := main
theorem EvE.ok {r : Int × Int} {e : Ending} (h : EvE r e) (z : r.2 = 0) : e = .returned (.int .i64 r.1) := by
  rcases h with ⟨_, h⟩ | ⟨h, _⟩
  · exact h
  · exact absurd z h
theorem EvE.bad {r : Int × Int} {e : Ending} (h : EvE r e) (z : ¬ r.2 = 0) : e = pnc r.2 ∧ r.1 = 0 := by
  rcases h with ⟨h, _⟩ | ⟨_, h1, h2⟩
  · exact absurd h z
  · exact ⟨h2, h1⟩
/-- The operators that take all their kids' values. -/
def Gop (op : Int) : Prop := op = 9 ∨ op = 10 ∨ op = 27 ∨ op = 11 ∨ op = 12 ∨ op = 13 ∨ op = 14 ∨ op = 15 ∨ op = 16 ∨ op = 17 ∨ op = 18 ∨ op = 19 ∨ op = 20 ∨ op = 21 ∨ op = 25 ∨ op = 26 ∨ op = 28
theorem operate_any (op : Int) (hG : Gop op) (p q : Nat) (mode a b c : Int) (ha : inR a) (hb : inR b) (hc : inR c) (w : World) (h0 : w.cell? ⟨p, q, none⟩ = some (.int .i64 op)) (h1 : w.cell? ⟨p, q + 1, none⟩ = some (.int .i64 mode)) :
    Calls Try.prog 55 #[.pointer (some ⟨p, q, none⟩), .int .i64 a, .int .i64 b, .int .i64 c] w fun e w' => EvE (opR op mode a b c) e ∧ Below w.heap.size w w' := by
  unfold Gop at hG
  rcases hG with rfl | rfl | rfl | rfl | rfl | rfl | rfl | rfl | rfl | rfl | rfl | rfl | rfl | rfl | rfl | rfl | rfl
  · exact operate_9 p q mode a b c ha hb w h0
  · exact operate_10 p q mode a b c w h0
  · exact operate_27 p q mode a b c ha hb w h0
  · exact operate_11 p q mode a b c ha hb w h0
  · exact operate_12 p q mode a b c ha hb w h0
  · exact operate_13 p q mode a b c ha hb w h0
  · exact operate_14 p q mode a b c ha hb w h0
  · exact operate_15 p q mode a b c ha hb w h0
  · exact operate_16 p q mode a b c w h0
  · exact operate_17 p q mode a b c w h0
  · exact operate_18 p q mode a b c w h0
  · exact operate_19 p q mode a b c w h0
  · exact operate_20 p q mode a b c w h0
  · exact operate_21 p q mode a b c w h0
  · exact operate_25 p q mode a b c w h0
  · exact operate_26 p q mode a b c w h0
  · exact operate_28 p q mode a b c ha hb hc w h0 h1
theorem flt_take : ∀ (vs : List (Int × Int)) (i : Nat), i < vs.length → flt (vs.take i) = 0 → (flt (vs.take (i + 1)) = (vs.getD i (0, 0)).2 ∧ (¬ (vs.getD i (0, 0)).2 = 0 → flt vs = (vs.getD i (0, 0)).2))
  | p :: r, 0, _, _ => by
    simp only [List.take_succ_cons, List.take_zero, flt, List.getD_cons_zero]
    split
    · rename_i h; exact ⟨h.symm, fun h' => absurd h h'⟩
    · exact ⟨rfl, fun _ => rfl⟩
  | p :: r, i + 1, h, h0 => by
    simp only [List.take_succ_cons, flt] at h0
    by_cases hp : p.2 = 0
    · rw [if_pos hp] at h0
      have := flt_take r i (by simpa using h) h0
      simp only [List.take_succ_cons, flt, List.getD_cons_succ, if_pos hp]
      exact this
    · rw [if_neg hp] at h0
      exact absurd h0 hp
theorem comb_gen (op mode : Int) (hG : Gop op) (vs : List (Int × Int)) (hl : 0 < vs.length) : comb op mode vs = if flt vs = 0 then opR op mode (vs.getD 0 (0, 0)).1 (vs.getD 1 (0, 0)).1 (vs.getD 2 (0, 0)).1 else (0, flt vs) := by
  have n1 : ¬ op = 22 := by unfold Gop at hG; omega
  have n2 : ¬ op = 23 := by unfold Gop at hG; omega
  have n3 : ¬ op = 24 := by unfold Gop at hG; omega
  unfold comb
  rw [if_neg n1, if_neg n2, if_neg n3]
  by_cases h : (vs.getD 0 (0, 0)).2 = 0
  · rw [if_neg (by simpa using h)]
  · rw [if_pos h]
    obtain ⟨p, r, rfl⟩ := List.exists_cons_of_ne_nil (show vs ≠ [] from fun e => by rw [e] at hl; simp at hl)
    simp only [List.getD_cons_zero] at h ⊢
    simp only [flt, if_neg h]
theorem gop_of {op : Int} {n : Nat} (h : shp op = (n : Int)) (h1 : ¬ op = 1) (h2 : ¬ op = 2) (h3 : ¬ op = 3) (h30 : ¬ op = 30) (h5 : ¬ op = 5) (h22 : ¬ op = 22) (h23 : ¬ op = 23) (h24 : ¬ op = 24) : Gop op := by
  unfold shp at h
  unfold Gop
  split at h
  · omega
  · split at h
    · omega
    · split at h
      · omega
      · split at h
        · omega
        · omega
theorem gop_len {op : Int} {n : Nat} (hG : Gop op) (h : shp op = (n : Int)) : 1 ≤ n ∧ n ≤ 3 := by
  unfold Gop at hG
  rcases hG with rfl | rfl | rfl | rfl | rfl | rfl | rfl | rfl | rfl | rfl | rfl | rfl | rfl | rfl | rfl | rfl | rfl <;> (simp [shp] at h; omega)
/-- While the kids are looked at: the values so far, none of them a fault. -/
def LS (vl : List (Int × Int)) (w wr : World) (i : Nat) : Prop := ∃ f : Nat → Int, Bk wr w.heap.size #[.int .i64 (f 0), .int .i64 (f 1), .int .i64 (f 2)] 94 ∧ (∀ j, j < i → f j = (vl.getD j (0, 0)).1) ∧ (∀ j, i ≤ j → f j = 0) ∧ flt (vl.take i) = 0 ∧ Below w.heap.size w wr
theorem Bk.some3 {w : World} {b : Nat} {x y z : Value} {t : TypeId} (h : Bk w b #[x, y, z] t) (k : Nat) (hk : k < 3) : ∃ v, w.cell? ⟨b, k, none⟩ = some v := by
  rw [h.cell]
  match k, hk with
  | 0, _ => exact ⟨x, rfl⟩
  | 1, _ => exact ⟨y, rfl⟩
  | 2, _ => exact ⟨z, rfl⟩
theorem ls_next {vl : List (Int × Int)} {w w2 : World} {i : Nat} {f : Nat → Int} {va : Int} (h : Bk w2 w.heap.size #[.int .i64 (f 0), .int .i64 (f 1), .int .i64 (f 2)] 94) (h1 : ∀ j, j < i → f j = (vl.getD j (0, 0)).1) (h2 : ∀ j, i ≤ j → f j = 0) (hi : i < 3) (hv : (vl.getD i (0, 0)).1 = va) (hf : flt (vl.take (i + 1)) = 0) (b : Below w.heap.size w w2) :
    LS vl w (w2.setCell ⟨w.heap.size, i, none⟩ (.int .i64 va)) (i + 1) := by
  refine ⟨fun j => if j = i then va else f j, ?_, fun j hj => ?_, fun j hj => ?_, hf, b.setCell (p := ⟨w.heap.size, i, none⟩) (Nat.le_refl _) _⟩
  · match i, hi with
    | 0, _ => have := h.set 0 (.int .i64 va) (by simp); simpa using this
    | 1, _ => have := h.set 1 (.int .i64 va) (by simp); simpa using this
    | 2, _ => have := h.set 2 (.int .i64 va) (by simp); simpa using this
  · by_cases e : j = i
    · subst e; simp only [if_true]; exact hv.symm
    · simp only [if_neg e]; exact h1 j (by omega)
  · simp only [if_neg (show ¬ j = i by omega)]; exact h2 j (by omega)
theorem comb22 (mode : Int) (vs : List (Int × Int)) : comb 22 mode vs = if ¬ (vs.getD 0 (0, 0)).2 = 0 then (0, (vs.getD 0 (0, 0)).2) else if (vs.getD 0 (0, 0)).1 = 0 then (0, 0) else if (vs.getD 1 (0, 0)).2 = 0 then (tr (¬ (vs.getD 1 (0, 0)).1 = 0), 0) else (0, (vs.getD 1 (0, 0)).2) := rfl
theorem comb23 (mode : Int) (vs : List (Int × Int)) : comb 23 mode vs = if ¬ (vs.getD 0 (0, 0)).2 = 0 then (0, (vs.getD 0 (0, 0)).2) else if ¬ (vs.getD 0 (0, 0)).1 = 0 then (1, 0) else if (vs.getD 1 (0, 0)).2 = 0 then (tr (¬ (vs.getD 1 (0, 0)).1 = 0), 0) else (0, (vs.getD 1 (0, 0)).2) := rfl
theorem comb24 (mode : Int) (vs : List (Int × Int)) : comb 24 mode vs = if ¬ (vs.getD 0 (0, 0)).2 = 0 then (0, (vs.getD 0 (0, 0)).2) else if ¬ (vs.getD 0 (0, 0)).1 = 0 then vs.getD 1 (0, 0) else vs.getD 2 (0, 0) := rfl
set_option maxRecDepth 100000 in
set_option maxHeartbeats 4000000 in
theorem look_any {w0 : World} {e : Xt} {vs : List Value} (hE : XV w0 e vs) {wp : Nat} {ra ca : Option Addr} {rn rc cn cc : Nat} {rs : List Rw} {C : List Int} (hR : ∀ r ∈ Rws rs, ∀ c ∈ r, inR c.v) (hC : ∀ x ∈ C, inR x) :
    ∀ (w : World) (p q : Nat), Below w0.heap.size w0 w → WS w wp ra ca rn rc cn cc rs C → (∀ j, j < 4 → w.cell? ⟨p, q + j, none⟩ = some (vs.getD j default)) →
      Calls Try.prog 37 #[.pointer (some ⟨wp, 0, none⟩), .pointer (some ⟨p, q, none⟩)] w fun e' w' => EvE (e.val (Rws rs) C) e' ∧ Below w.heap.size w w' := by
  induction hE with
  | @mk op num day kids ka kc V wop wnum wday hk hn hr hkids ih =>
    intro w p q hB hW hc
    have c0 := hc 0 (by omega)
    have c1 := hc 1 (by omega)
    have c2 := hc 2 (by omega)
    have c3 := hc 3 (by omega)
    simp only [List.getD_cons_succ, List.getD_cons_zero, Nat.add_zero] at c0 c1 c2 c3
    have hp : p < w.heap.size := World.block_lt_of_cell? w ⟨p, q, none⟩ c0
    have KW := Lib.hid (wellShaped_any p q op ka kids.length kc w c0 c3)
    have HW := Lib.hid hW
    have HR := Lib.hid hr
    have HK := Lib.hid hkids
    have IH := Lib.hid ih
    have HB := Lib.hid hB
    have WN := Lib.hid wnum
    clear hc hW hr hkids ih hB wop wnum wday hk hn
    by_cases hs : (kids.length : Int) = shp op
    case neg =>
      have ev : (Xt.mk op num day kids).val (Rws rs) C = (0, 0) := by simp only [Xt.val]; rw [if_neg (fun h => hs h.symm)]
      rw [ev]
      rw [decide_eq_false hs] at KW
      go_enter Try.func37, Try.ntmps37
      go_wp2_with fail
      go_at_call 51
      refine KW.out.mono ?_
      rintro e w1 ⟨rfl, rfl⟩
      go_wp2
      go_ret
      exact ⟨.inl ⟨rfl, rfl⟩, (Below.refl _ _).drew⟩
    rw [decide_eq_true hs] at KW
    by_cases h1 : op = 1
    · subst h1
      have ev : (Xt.mk 1 num day kids).val (Rws rs) C = (num, 0) := by simp only [Xt.val]; rw [if_pos hs.symm]; rfl
      rw [ev]
      go_enter Try.func37, Try.ntmps37
      go_wp2_with fail
      go_at_call 51
      refine KW.out.mono ?_
      rintro e w1 ⟨rfl, rfl⟩
      go_wp2
      go_ret
      exact ⟨.inl ⟨rfl, rfl⟩, (Below.refl _ _).drew⟩
    by_cases h2 : op = 2
    · subst h2
      have ev : (Xt.mk 2 num day kids).val (Rws rs) C = (1, 0) := by simp only [Xt.val]; rw [if_pos hs.symm]; rfl
      rw [ev]
      go_enter Try.func37, Try.ntmps37
      go_wp2_with fail
      go_at_call 51
      refine KW.out.mono ?_
      rintro e w1 ⟨rfl, rfl⟩
      go_wp2
      go_ret
      exact ⟨.inl ⟨rfl, rfl⟩, (Below.refl _ _).drew⟩
    by_cases h3 : op = 3
    · subst h3
      have ev : (Xt.mk 3 num day kids).val (Rws rs) C = (0, 0) := by simp only [Xt.val]; rw [if_pos hs.symm]; rfl
      rw [ev]
      go_enter Try.func37, Try.ntmps37
      go_wp2_with fail
      go_at_call 51
      refine KW.out.mono ?_
      rintro e w1 ⟨rfl, rfl⟩
      go_wp2
      go_ret
      exact ⟨.inl ⟨rfl, rfl⟩, (Below.refl _ _).drew⟩
    by_cases h30 : op = 30
    · subst h30
      have ev : (Xt.mk 30 num day kids).val (Rws rs) C = (cellR C num, 0) := by simp only [Xt.val]; rw [if_pos hs.symm]; rfl
      rw [ev]
      have KC := Lib.hid (lcell_any (HW.out.later (Below.refl _ _).drew) num)
      clear ev
      generalize cellR C num = z at *
      go_enter Try.func37, Try.ntmps37
      go_wp2_with fail
      go_at_call 51
      refine KW.out.mono ?_
      rintro e w1 ⟨rfl, rfl⟩
      go_wp2_with fail
      go_at_call 53
      refine KC.out.mono ?_
      rintro e w2 ⟨rfl, b2⟩
      have B2 := Lib.hid b2
      clear b2
      go_wp2
      go_ret
      exact ⟨.inl ⟨rfl, rfl⟩, (Below.refl _ _).drew.trans B2.out⟩
    by_cases h5 : op = 5
    · subst h5
      have ev : (Xt.mk 5 num day kids).val (Rws rs) C = seenR (Rws rs) num day := by simp only [Xt.val]; rw [if_pos hs.symm]; rfl
      rw [ev]
      have KC := Lib.hid (fun W (b : Below w.heap.size w W) => observation_any (HW.out.later b) day num)
      clear ev
      generalize seenR (Rws rs) num day = sv at *
      by_cases z : sv.2 = 0
      · go_enter Try.func37, Try.ntmps37
        go_wp2_with fail
        go_at_call 51
        refine KW.out.mono ?_
        rintro e w1 ⟨rfl, rfl⟩
        go_wp2_with fail
        go_region_held3 (fun w' => w'.cell? ⟨p, q + 1, none⟩ = some (.int .i64 num) ∧ w'.cell? ⟨p, q + 2, none⟩ = some (.int .i64 day)) (refine ⟨?_, ?_⟩ <;> first | assumption | (go_simp; done))
          (first | (go_at_call 52; refine (KC.out _ (Below.refl _ _).drew.drew).mono ?_; rintro e w2 ⟨he, b2⟩; have B2 := Lib.hid (show Below w.heap.size w w2 from (Below.refl _ _).drew.drew.trans b2); have u1 := (B2.out.cell (p := ⟨p, q + 1, none⟩) hp).trans c1; have u2 := (B2.out.cell (p := ⟨p, q + 2, none⟩) hp).trans c2; clear b2; obtain rfl := he.ok z))
        go_wp2
        go_ret
        exact ⟨.inl ⟨z, rfl⟩, B2.out⟩
      · go_enter Try.func37, Try.ntmps37
        go_wp2_with fail
        go_at_call 51
        refine KW.out.mono ?_
        rintro e w1 ⟨rfl, rfl⟩
        go_wp2_with fail
        go_region_law (go_simp; go_at_call 52; (refine leave (X := (‹Act → World → Prop›) ⟨#[], []⟩ w) ?_ ?_); (focus (refine (KC.out _ (Below.refl _ _).drew.drew).mono ?_; rintro e w2 ⟨he, b2⟩; have B2 := Lib.hid (show Below w.heap.size w w2 from (Below.refl _ _).drew.drew.trans b2); clear b2; obtain ⟨rfl, z2⟩ := he.bad z; unfold pnc; (try go_wp2); (try exact ⟨rfl, .inr ⟨z, z2, rfl⟩, B2.out⟩); done)); (intro hF))
        all_goals exact hF.elim
    -- the kids
    have KP : 0 < kids.length → ∃ x of, ka = some ⟨x, of, none⟩ ∧ RowKit.Hid (∀ i, i < kids.length → ∀ W, Below w.heap.size w W → Calls Try.prog 37 #[.pointer (some ⟨wp, 0, none⟩), .pointer (some ⟨x, of + i * 4, none⟩)] W fun e' w' => EvE ((Xt.vals (Rws rs) C kids).getD i (0, 0)) e' ∧ Below W.heap.size W w') := fun h0 => by
      obtain ⟨x, of, hx, hlt, hcl⟩ := HR.out.at HB.out h0
      refine ⟨x, of, hx, fun i hi W hW => ?_⟩
      rw [Xt.vals_at _ _ _ _ hi]
      refine IH.out i hi W x (of + i * 4) (HB.out.trans (hW.mono HB.out.size)) (HW.out.later hW) (fun j hj => ?_)
      have hxw : x < w.heap.size := by have := HB.out.size; omega
      exact (hW.cell (p := ⟨x, of + i * 4 + j, none⟩) hxw).trans (hcl i hi j hj)
    have VI : ∀ i, inR ((Xt.vals (Rws rs) C kids).getD i (0, 0)).1 := fun i => by
      by_cases hi : i < kids.length
      · rw [Xt.vals_at _ _ _ _ hi]; exact val_in (HK.out i hi) _ _ hR hC
      · rw [List.getD_eq_getElem?_getD, List.getElem?_eq_none (by rw [Xt.vals_len]; omega)]; exact zero_inR
    have VL := Xt.vals_len (Rws rs) C kids
    have EV : (Xt.mk op num day kids).val (Rws rs) C = comb op num (Xt.vals (Rws rs) C kids) := by simp only [Xt.val]; rw [if_pos hs.symm, if_neg h1, if_neg h2, if_neg h3, if_neg h30, if_neg h5]
    rw [EV]
    generalize Xt.vals (Rws rs) C kids = vl at *
    clear EV IH HR HK HB HW WN
    by_cases h22 : op = 22
    · subst h22
      have hl : kids.length = 2 := by have : shp 22 = 2 := rfl; omega
      obtain ⟨x, of, rfl, KI⟩ := KP (by omega)
      have K0 := Lib.hid (KI.out 0 (by omega))
      have K1 := Lib.hid (KI.out 1 (by omega))
      rw [hl] at c3
      clear KI KP
      simp only [Nat.zero_mul, Nat.add_zero, Nat.one_mul, Nat.reduceMul] at K0 K1
      rw [comb22]
      generalize vl.getD 0 (0, 0) = v0 at *
      generalize vl.getD 1 (0, 0) = v1 at *
      obtain ⟨a0, f0⟩ := v0
      obtain ⟨a1, f1⟩ := v1
      simp only at K0 K1 VI ⊢
      clear VI VL
      by_cases z0 : f0 = 0
      case neg =>
        rw [if_pos z0]
        go_enter Try.func37, Try.ntmps37
        go_wp2_with fail
        go_at_call 51
        refine KW.out.mono ?_
        rintro e w1 ⟨rfl, rfl⟩
        go_wp2_with fail
        go_at_call 37
        refine (K0.out _ (Below.refl _ _).drew).mono ?_
        rintro e w2 ⟨he, b2⟩
        have B2 := Lib.hid (show Below w.heap.size w w2 from (Below.refl _ _).drew.trans b2)
        have u3 := (B2.out.cell (p := ⟨p, q + 3, none⟩) hp).trans c3
        clear b2
        obtain ⟨rfl, z2⟩ := he.bad z0
        unfold pnc
        go_wp2
        exact ⟨rfl, .inr ⟨z0, rfl, rfl⟩, B2.out⟩
      rw [if_neg (by simpa using z0)]
      by_cases zz : a0 = 0
      · rw [if_pos zz]
        have b1 : (a0 != 0) = false := by simpa using zz
        have b2 : (a0 == 0) = true := by simpa using zz
        go_enter Try.func37, Try.ntmps37
        go_wp2_with fail
        go_at_call 51
        refine KW.out.mono ?_
        rintro e w1 ⟨rfl, rfl⟩
        go_wp2_with fail
        go_at_call 37
        refine (K0.out _ (Below.refl _ _).drew).mono ?_
        rintro e w2 ⟨he, b2⟩
        have B2 := Lib.hid (show Below w.heap.size w w2 from (Below.refl _ _).drew.trans b2)
        have u3 := (B2.out.cell (p := ⟨p, q + 3, none⟩) hp).trans c3
        clear b2
        obtain rfl := he.ok z0
        go_wp2_with fail
        go_at_call 54
        refine (ltruth_any _ _).mono ?_
        rintro e w4 ⟨rfl, rfl⟩
        go_wp2
        go_ret
        exact ⟨.inl ⟨rfl, rfl⟩, B2.out⟩
      rw [if_neg (by simpa using zz)]
      have b1 : (a0 != 0) = true := by simpa using zz
      have b2 : (a0 == 0) = false := by simpa using zz
      by_cases z1 : f1 = 0
      case neg =>
        rw [if_neg z1]
        go_enter Try.func37, Try.ntmps37
        go_wp2_with fail
        go_at_call 51
        refine KW.out.mono ?_
        rintro e w1 ⟨rfl, rfl⟩
        go_wp2_with fail
        go_at_call 37
        refine (K0.out _ (Below.refl _ _).drew).mono ?_
        rintro e w2 ⟨he, b2⟩
        have B2 := Lib.hid (show Below w.heap.size w w2 from (Below.refl _ _).drew.trans b2)
        have u3 := (B2.out.cell (p := ⟨p, q + 3, none⟩) hp).trans c3
        clear b2
        obtain rfl := he.ok z0
        go_wp2_with fail
        go_at_call 37
        refine (K1.out _ B2.out).mono ?_
        rintro e w3 ⟨he, b3⟩
        have B3 := Lib.hid (B2.out.trans (b3.mono B2.out.size))
        clear b3
        obtain ⟨rfl, z2⟩ := he.bad z1
        unfold pnc
        go_wp2
        exact ⟨rfl, .inr ⟨z1, rfl, rfl⟩, B3.out⟩
      rw [if_pos z1]
      by_cases y1 : a1 = 0
      · have b3 : (a1 != 0) = false := by simpa using y1
        have b4 : (a1 == 0) = true := by simpa using y1
        have t1 : tr (¬ a1 = 0) = 0 := by unfold tr; rw [if_neg (by simpa using y1)]
        rw [t1]
        go_enter Try.func37, Try.ntmps37
        go_wp2_with fail
        go_at_call 51
        refine KW.out.mono ?_
        rintro e w1 ⟨rfl, rfl⟩
        go_wp2_with fail
        go_at_call 37
        refine (K0.out _ (Below.refl _ _).drew).mono ?_
        rintro e w2 ⟨he, b2⟩
        have B2 := Lib.hid (show Below w.heap.size w w2 from (Below.refl _ _).drew.trans b2)
        have u3 := (B2.out.cell (p := ⟨p, q + 3, none⟩) hp).trans c3
        clear b2
        obtain rfl := he.ok z0
        go_wp2_with fail
        go_at_call 37
        refine (K1.out _ B2.out).mono ?_
        rintro e w3 ⟨he, b3⟩
        have B3 := Lib.hid (B2.out.trans (b3.mono B2.out.size))
        clear b3
        obtain rfl := he.ok z1
        go_wp2_with fail
        go_at_call 54
        refine (ltruth_any _ _).mono ?_
        rintro e w4 ⟨rfl, rfl⟩
        go_wp2
        go_ret
        exact ⟨.inl ⟨rfl, rfl⟩, B3.out⟩
      · have b3 : (a1 != 0) = true := by simpa using y1
        have b4 : (a1 == 0) = false := by simpa using y1
        have t1 : tr (¬ a1 = 0) = 1 := by unfold tr; rw [if_pos y1]
        rw [t1]
        go_enter Try.func37, Try.ntmps37
        go_wp2_with fail
        go_at_call 51
        refine KW.out.mono ?_
        rintro e w1 ⟨rfl, rfl⟩
        go_wp2_with fail
        go_at_call 37
        refine (K0.out _ (Below.refl _ _).drew).mono ?_
        rintro e w2 ⟨he, b2⟩
        have B2 := Lib.hid (show Below w.heap.size w w2 from (Below.refl _ _).drew.trans b2)
        have u3 := (B2.out.cell (p := ⟨p, q + 3, none⟩) hp).trans c3
        clear b2
        obtain rfl := he.ok z0
        go_wp2_with fail
        go_at_call 37
        refine (K1.out _ B2.out).mono ?_
        rintro e w3 ⟨he, b3⟩
        have B3 := Lib.hid (B2.out.trans (b3.mono B2.out.size))
        clear b3
        obtain rfl := he.ok z1
        go_wp2_with fail
        go_at_call 54
        refine (ltruth_any _ _).mono ?_
        rintro e w4 ⟨rfl, rfl⟩
        go_wp2
        go_ret
        exact ⟨.inl ⟨rfl, rfl⟩, B3.out⟩
    by_cases h23 : op = 23
    · subst h23
      have hl : kids.length = 2 := by have : shp 23 = 2 := rfl; omega
      obtain ⟨x, of, rfl, KI⟩ := KP (by omega)
      have K0 := Lib.hid (KI.out 0 (by omega))
      have K1 := Lib.hid (KI.out 1 (by omega))
      rw [hl] at c3
      clear KI KP
      simp only [Nat.zero_mul, Nat.add_zero, Nat.one_mul, Nat.reduceMul] at K0 K1
      rw [comb23]
      generalize vl.getD 0 (0, 0) = v0 at *
      generalize vl.getD 1 (0, 0) = v1 at *
      obtain ⟨a0, f0⟩ := v0
      obtain ⟨a1, f1⟩ := v1
      simp only at K0 K1 VI ⊢
      clear VI VL
      by_cases z0 : f0 = 0
      case neg =>
        rw [if_pos z0]
        go_enter Try.func37, Try.ntmps37
        go_wp2_with fail
        go_at_call 51
        refine KW.out.mono ?_
        rintro e w1 ⟨rfl, rfl⟩
        go_wp2_with fail
        go_at_call 37
        refine (K0.out _ (Below.refl _ _).drew).mono ?_
        rintro e w2 ⟨he, b2⟩
        have B2 := Lib.hid (show Below w.heap.size w w2 from (Below.refl _ _).drew.trans b2)
        have u3 := (B2.out.cell (p := ⟨p, q + 3, none⟩) hp).trans c3
        clear b2
        obtain ⟨rfl, z2⟩ := he.bad z0
        unfold pnc
        go_wp2
        exact ⟨rfl, .inr ⟨z0, rfl, rfl⟩, B2.out⟩
      rw [if_neg (by simpa using z0)]
      by_cases zz : ¬ a0 = 0
      · rw [if_pos zz]
        have b1 : (a0 != 0) = true := by simpa using zz
        have b2 : (a0 == 0) = false := by simpa using zz
        go_enter Try.func37, Try.ntmps37
        go_wp2_with fail
        go_at_call 51
        refine KW.out.mono ?_
        rintro e w1 ⟨rfl, rfl⟩
        go_wp2_with fail
        go_at_call 37
        refine (K0.out _ (Below.refl _ _).drew).mono ?_
        rintro e w2 ⟨he, b2⟩
        have B2 := Lib.hid (show Below w.heap.size w w2 from (Below.refl _ _).drew.trans b2)
        have u3 := (B2.out.cell (p := ⟨p, q + 3, none⟩) hp).trans c3
        clear b2
        obtain rfl := he.ok z0
        go_wp2_with fail
        go_at_call 54
        refine (ltruth_any _ _).mono ?_
        rintro e w4 ⟨rfl, rfl⟩
        go_wp2
        go_ret
        exact ⟨.inl ⟨rfl, rfl⟩, B2.out⟩
      rw [if_neg (by simpa using zz)]
      have b1 : (a0 != 0) = false := by simpa using zz
      have b2 : (a0 == 0) = true := by simpa using zz
      by_cases z1 : f1 = 0
      case neg =>
        rw [if_neg z1]
        go_enter Try.func37, Try.ntmps37
        go_wp2_with fail
        go_at_call 51
        refine KW.out.mono ?_
        rintro e w1 ⟨rfl, rfl⟩
        go_wp2_with fail
        go_at_call 37
        refine (K0.out _ (Below.refl _ _).drew).mono ?_
        rintro e w2 ⟨he, b2⟩
        have B2 := Lib.hid (show Below w.heap.size w w2 from (Below.refl _ _).drew.trans b2)
        have u3 := (B2.out.cell (p := ⟨p, q + 3, none⟩) hp).trans c3
        clear b2
        obtain rfl := he.ok z0
        go_wp2_with fail
        go_at_call 37
        refine (K1.out _ B2.out).mono ?_
        rintro e w3 ⟨he, b3⟩
        have B3 := Lib.hid (B2.out.trans (b3.mono B2.out.size))
        clear b3
        obtain ⟨rfl, z2⟩ := he.bad z1
        unfold pnc
        go_wp2
        exact ⟨rfl, .inr ⟨z1, rfl, rfl⟩, B3.out⟩
      rw [if_pos z1]
      by_cases y1 : a1 = 0
      · have b3 : (a1 != 0) = false := by simpa using y1
        have b4 : (a1 == 0) = true := by simpa using y1
        have t1 : tr (¬ a1 = 0) = 0 := by unfold tr; rw [if_neg (by simpa using y1)]
        rw [t1]
        go_enter Try.func37, Try.ntmps37
        go_wp2_with fail
        go_at_call 51
        refine KW.out.mono ?_
        rintro e w1 ⟨rfl, rfl⟩
        go_wp2_with fail
        go_at_call 37
        refine (K0.out _ (Below.refl _ _).drew).mono ?_
        rintro e w2 ⟨he, b2⟩
        have B2 := Lib.hid (show Below w.heap.size w w2 from (Below.refl _ _).drew.trans b2)
        have u3 := (B2.out.cell (p := ⟨p, q + 3, none⟩) hp).trans c3
        clear b2
        obtain rfl := he.ok z0
        go_wp2_with fail
        go_at_call 37
        refine (K1.out _ B2.out).mono ?_
        rintro e w3 ⟨he, b3⟩
        have B3 := Lib.hid (B2.out.trans (b3.mono B2.out.size))
        clear b3
        obtain rfl := he.ok z1
        go_wp2_with fail
        go_at_call 54
        refine (ltruth_any _ _).mono ?_
        rintro e w4 ⟨rfl, rfl⟩
        go_wp2
        go_ret
        exact ⟨.inl ⟨rfl, rfl⟩, B3.out⟩
      · have b3 : (a1 != 0) = true := by simpa using y1
        have b4 : (a1 == 0) = false := by simpa using y1
        have t1 : tr (¬ a1 = 0) = 1 := by unfold tr; rw [if_pos y1]
        rw [t1]
        go_enter Try.func37, Try.ntmps37
        go_wp2_with fail
        go_at_call 51
        refine KW.out.mono ?_
        rintro e w1 ⟨rfl, rfl⟩
        go_wp2_with fail
        go_at_call 37
        refine (K0.out _ (Below.refl _ _).drew).mono ?_
        rintro e w2 ⟨he, b2⟩
        have B2 := Lib.hid (show Below w.heap.size w w2 from (Below.refl _ _).drew.trans b2)
        have u3 := (B2.out.cell (p := ⟨p, q + 3, none⟩) hp).trans c3
        clear b2
        obtain rfl := he.ok z0
        go_wp2_with fail
        go_at_call 37
        refine (K1.out _ B2.out).mono ?_
        rintro e w3 ⟨he, b3⟩
        have B3 := Lib.hid (B2.out.trans (b3.mono B2.out.size))
        clear b3
        obtain rfl := he.ok z1
        go_wp2_with fail
        go_at_call 54
        refine (ltruth_any _ _).mono ?_
        rintro e w4 ⟨rfl, rfl⟩
        go_wp2
        go_ret
        exact ⟨.inl ⟨rfl, rfl⟩, B3.out⟩
    by_cases h24 : op = 24
    · subst h24
      have hl : kids.length = 3 := by have : shp 24 = 3 := rfl; omega
      obtain ⟨x, of, rfl, KI⟩ := KP (by omega)
      have K0 := Lib.hid (KI.out 0 (by omega))
      have K1 := Lib.hid (KI.out 1 (by omega))
      have K2 := Lib.hid (KI.out 2 (by omega))
      rw [hl] at c3
      clear KI KP
      simp only [Nat.zero_mul, Nat.add_zero, Nat.one_mul, Nat.reduceMul] at K0 K1 K2
      rw [comb24]
      generalize vl.getD 0 (0, 0) = v0 at *
      generalize vl.getD 1 (0, 0) = v1 at *
      generalize vl.getD 2 (0, 0) = v2 at *
      obtain ⟨a0, f0⟩ := v0
      obtain ⟨a1, f1⟩ := v1
      obtain ⟨a2, f2⟩ := v2
      simp only at K0 K1 K2 VI ⊢
      clear VI VL
      by_cases z0 : f0 = 0
      case neg =>
        rw [if_pos z0]
        go_enter Try.func37, Try.ntmps37
        go_wp2_with fail
        go_at_call 51
        refine KW.out.mono ?_
        rintro e w1 ⟨rfl, rfl⟩
        go_wp2_with fail
        go_at_call 37
        refine (K0.out _ (Below.refl _ _).drew).mono ?_
        rintro e w2 ⟨he, b2⟩
        have B2 := Lib.hid (show Below w.heap.size w w2 from (Below.refl _ _).drew.trans b2)
        have u3 := (B2.out.cell (p := ⟨p, q + 3, none⟩) hp).trans c3
        clear b2
        obtain ⟨rfl, z2⟩ := he.bad z0
        unfold pnc
        go_wp2
        exact ⟨rfl, .inr ⟨z0, rfl, rfl⟩, B2.out⟩
      rw [if_neg (by simpa using z0)]
      by_cases zz : ¬ a0 = 0
      · rw [if_pos zz]
        have b1 : (a0 != 0) = true := by simpa using zz
        have b2 : (a0 == 0) = false := by simpa using zz
        by_cases z1 : f1 = 0
        case neg =>
          go_enter Try.func37, Try.ntmps37
          go_wp2_with fail
          go_at_call 51
          refine KW.out.mono ?_
          rintro e w1 ⟨rfl, rfl⟩
          go_wp2_with fail
          go_at_call 37
          refine (K0.out _ (Below.refl _ _).drew).mono ?_
          rintro e w2 ⟨he, b2⟩
          have B2 := Lib.hid (show Below w.heap.size w w2 from (Below.refl _ _).drew.trans b2)
          have u3 := (B2.out.cell (p := ⟨p, q + 3, none⟩) hp).trans c3
          clear b2
          obtain rfl := he.ok z0
          go_wp2_with fail
          go_at_call 37
          refine (K1.out _ B2.out).mono ?_
          rintro e w3 ⟨he, b3⟩
          have B3 := Lib.hid (B2.out.trans (b3.mono B2.out.size))
          clear b3
          obtain ⟨rfl, z2⟩ := he.bad z1
          unfold pnc
          go_wp2
          exact ⟨rfl, .inr ⟨z1, z2, rfl⟩, B3.out⟩
        go_enter Try.func37, Try.ntmps37
        go_wp2_with fail
        go_at_call 51
        refine KW.out.mono ?_
        rintro e w1 ⟨rfl, rfl⟩
        go_wp2_with fail
        go_at_call 37
        refine (K0.out _ (Below.refl _ _).drew).mono ?_
        rintro e w2 ⟨he, b2⟩
        have B2 := Lib.hid (show Below w.heap.size w w2 from (Below.refl _ _).drew.trans b2)
        have u3 := (B2.out.cell (p := ⟨p, q + 3, none⟩) hp).trans c3
        clear b2
        obtain rfl := he.ok z0
        go_wp2_with fail
        go_at_call 37
        refine (K1.out _ B2.out).mono ?_
        rintro e w3 ⟨he, b3⟩
        have B3 := Lib.hid (B2.out.trans (b3.mono B2.out.size))
        clear b3
        obtain rfl := he.ok z1
        go_wp2
        go_ret
        exact ⟨.inl ⟨z1, rfl⟩, B3.out⟩
      · rw [if_neg (by simpa using zz)]
        have b1 : (a0 != 0) = false := by simpa using zz
        have b2 : (a0 == 0) = true := by simpa using zz
        by_cases z1 : f2 = 0
        case neg =>
          go_enter Try.func37, Try.ntmps37
          go_wp2_with fail
          go_at_call 51
          refine KW.out.mono ?_
          rintro e w1 ⟨rfl, rfl⟩
          go_wp2_with fail
          go_at_call 37
          refine (K0.out _ (Below.refl _ _).drew).mono ?_
          rintro e w2 ⟨he, b2⟩
          have B2 := Lib.hid (show Below w.heap.size w w2 from (Below.refl _ _).drew.trans b2)
          have u3 := (B2.out.cell (p := ⟨p, q + 3, none⟩) hp).trans c3
          clear b2
          obtain rfl := he.ok z0
          go_wp2_with fail
          go_at_call 37
          refine (K2.out _ B2.out).mono ?_
          rintro e w3 ⟨he, b3⟩
          have B3 := Lib.hid (B2.out.trans (b3.mono B2.out.size))
          clear b3
          obtain ⟨rfl, z2⟩ := he.bad z1
          unfold pnc
          go_wp2
          exact ⟨rfl, .inr ⟨z1, z2, rfl⟩, B3.out⟩
        go_enter Try.func37, Try.ntmps37
        go_wp2_with fail
        go_at_call 51
        refine KW.out.mono ?_
        rintro e w1 ⟨rfl, rfl⟩
        go_wp2_with fail
        go_at_call 37
        refine (K0.out _ (Below.refl _ _).drew).mono ?_
        rintro e w2 ⟨he, b2⟩
        have B2 := Lib.hid (show Below w.heap.size w w2 from (Below.refl _ _).drew.trans b2)
        have u3 := (B2.out.cell (p := ⟨p, q + 3, none⟩) hp).trans c3
        clear b2
        obtain rfl := he.ok z0
        go_wp2_with fail
        go_at_call 37
        refine (K2.out _ B2.out).mono ?_
        rintro e w3 ⟨he, b3⟩
        have B3 := Lib.hid (B2.out.trans (b3.mono B2.out.size))
        clear b3
        obtain rfl := he.ok z1
        go_wp2
        go_ret
        exact ⟨.inl ⟨z1, rfl⟩, B3.out⟩
    have hG : Gop op := gop_of hs.symm h1 h2 h3 h30 h5 h22 h23 h24
    have hl : 1 ≤ kids.length ∧ kids.length ≤ 3 := gop_len hG hs.symm
    rw [comb_gen op num hG vl (by omega)]
    obtain ⟨x, of, rfl, KI⟩ := KP (by omega)
    have n1 : (op == 1) = false := by simpa using h1
    have n2 : (op == 2) = false := by simpa using h2
    have n3 : (op == 3) = false := by simpa using h3
    have n5 : (op == 5) = false := by simpa using h5
    have n30 : (op == 30) = false := by simpa using h30
    have n22 : (op == 22) = false := by simpa using h22
    have n23 : (op == 23) = false := by simpa using h23
    have n24 : (op == 24) = false := by simpa using h24
    clear KP
    go_enter Try.func37, Try.ntmps37
    go_wp2_with fail
    go_at_call 51
    refine KW.out.mono ?_
    rintro e w1 ⟨rfl, rfl⟩
    go_wp2_with fail
    go_loopw [115] (fun t wr => ∃ (i : Nat), i ≤ kids.length ∧ t = .int .i64 i ∧ LS vl w wr i) (fun t _ => kids.length - (intOf t).toNat)
    case atStart => exact ⟨0, by omega, rfl, fun _ => 0, (Bk.new w #[.int .i64 0, .int .i64 0, .int .i64 0] 94), fun j hj => absurd hj (by omega), fun _ _ => rfl, rfl, ((Below.refl _ _).alloc (Nat.le_refl _) _).drew⟩
    case round =>
      rename World => wr
      obtain ⟨i, hi, rfl, f, hbk, hf1, hf2, hflt, hBw⟩ := hrel
      have BW := Lib.hid hBw
      have BK := Lib.hid hbk
      have HF := Lib.hid (And.intro hf1 hf2)
      have d0 := (hBw.cell (p := ⟨p, q, none⟩) hp).trans c0
      have d1 := (hBw.cell (p := ⟨p, q + 1, none⟩) hp).trans c1
      have d3 := (hBw.cell (p := ⟨p, q + 3, none⟩) hp).trans c3
      clear hBw hf1 hf2
      by_cases il : i < kids.length
      · have ic : (i : Int) < (kids.length : Int) := by omega
        have i3 : i < 3 := by omega
        have i3' : (i : Int) < 3 := by omega
        have KX := Lib.hid (KI.out i il wr BW.out)
        obtain ⟨ft1, ft2⟩ := flt_take vl i (by omega) hflt
        have vi := VI i
        generalize hv : vl.getD i (0, 0) = v at *
        obtain ⟨va, vf⟩ := v
        simp only at ft1 ft2 vi
        by_cases zf : vf = 0
        · go_wp2_with fail
          go_at_call 37
          refine KX.out.mono ?_
          rintro e w2 ⟨he, b2⟩
          obtain rfl := he.ok zf
          have B2 := Lib.hid (BW.out.trans (b2.mono BW.out.size))
          have BK2 := Lib.hid (BK.out.below b2 BK.out.lt)
          obtain ⟨y, hy⟩ := BK2.out.some3 i i3
          have fz := BK2.out.frozen i
          clear b2 he
          go_wp2
          go_roundw
          case rel => exact ⟨i + 1, by omega, by go_num, ls_next BK2.out HF.out.1 HF.out.2 i3 (by rw [hv]) (by rw [ft1]; exact zf) B2.out⟩
          case measure => simp [intOf]; omega
        · have ec : flt vl = vf := ft2 zf
          go_wp2_with fail
          go_at_call 37
          refine KX.out.mono ?_
          rintro e w2 ⟨he, b2⟩
          obtain ⟨rfl, z2⟩ := he.bad zf
          have B2 := Lib.hid (BW.out.trans (b2.mono BW.out.size))
          clear b2
          unfold pnc
          go_wp2
          refine ⟨rfl, ?_, B2.out⟩
          first | exact .inr ⟨zf, rfl, rfl⟩ | (rw [ec, if_neg zf]; exact .inr ⟨zf, rfl, rfl⟩)
      · obtain rfl : i = kids.length := by omega
        have ec : flt vl = 0 := by rw [← hflt, List.take_of_length_le (by omega)]
        have FV : ∀ j, f j = (vl.getD j (0, 0)).1 := fun j => by
          by_cases hj : j < kids.length
          · exact HF.out.1 j hj
          · rw [HF.out.2 j (by omega), List.getD_eq_getElem?_getD, List.getElem?_eq_none (by omega)]; rfl
        have KO := Lib.hid (operate_any op hG p q num (f 0) (f 1) (f 2) (by rw [FV]; exact VI 0) (by rw [FV]; exact VI 1) (by rw [FV]; exact VI 2) wr d0 d1)
        have e0 := BK.out.cell 0
        have e1 := BK.out.cell 1
        have e2 := BK.out.cell 2
        simp at e0 e1 e2
        have F0 := Lib.hid (FV 0)
        have F1 := Lib.hid (FV 1)
        have F2 := Lib.hid (FV 2)
        have EC := Lib.hid ec
        clear ec FV hflt
        go_wp2_with fail
        go_at_call 55
        refine KO.out.mono ?_
        rintro e w3 ⟨he, b3⟩
        have B3 := Lib.hid (BW.out.trans (b3.mono BW.out.size))
        have HE := Lib.hid he
        clear b3
        rcases he with ⟨z, rfl⟩ | ⟨z1, z2, rfl⟩
        · go_wp2
          go_ret
          refine ⟨?_, B3.out⟩
          have hh := HE.out
          have ee := EC.out
          simp only [ee, if_true, F0.out, F1.out, F2.out, List.getD_eq_getElem?_getD] at hh ⊢
          exact hh
        · unfold pnc
          go_wp2
          refine ⟨rfl, ?_, B3.out⟩
          have hh := HE.out
          have ee := EC.out
          simp only [ee, if_true, F0.out, F1.out, F2.out, List.getD_eq_getElem?_getD] at hh ⊢
          exact hh
end Go.Proofs.Ytjlnbhmiahegmaa
