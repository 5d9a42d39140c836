/-
  WALK: the document's Value.
-/
import Derived.Test.YtjlnbhmiahegmaaWXV9
import Derived.Test.YtjlnbhmiahegmaaWXV2
import Derived.Test.YtjlnbhmiahegmaaWX3
namespace Go.Proofs.Ytjlnbhmiahegmaa
open Go.RowKit
set_option linter.unusedVariables false
set_option linter.unusedSimpArgs false

def TV (r : Int × Int) : Ending := .returned (.tuple #[.int .i64 r.1, .int .i64 r.2])
theorem infoI : (Try.prog.info? 3).map (fun i => (i.zero, i.size, i.bytes)) = some (some (.int .i64 0), 1, 8) := by kernel_rfl
/-- 'v = append(v, x)' of a row of one's own. -/
theorem wp_int {ops : Array Oper} {rest : List Oper} {o : Oper} {a : Act} {Q : Exit → Act → World → Prop} (w : World) (x : Int) (hgd : o.guard = none) (s y : Operand)
    (ho : o.op = .call { callee := .builtin .append, args := #[s, y], argTypes := #[26, 26] }) (base : Nat) (v : Value) (n : Nat) (xs : List Value) (hs : a.eval s = v)
    (hx : a.eval y = .slice (some ⟨w.heap.size, 0, none⟩) 1 1) (hown : w.ownsRow base 3 1 v n xs) (hl : n ≤ 4398046511000) (hb : base ≤ w.heap.size)
    (h : ∀ v' w', w'.ownsRow base 3 1 v' (n + 1) (xs ++ [.int .i64 x]) → (w.alloc (.cells #[.int .i64 x] 3)).grownBy w' v.ownBlock → wpList Try.prog ops Q rest (a.put o.dst v') w') :
    wpList Try.prog ops Q (o :: rest) a (w.alloc (.cells #[.int .i64 x] 3)) := by
  obtain ⟨i0, hi, hz0, hz1, hz2⟩ := info_parts infoI
  refine wpList_append_own _ hgd s y 26 ho base 3 i0 (.int .i64 0) 1 8 Try.underlying26 hi hz0 hz1 hz2 rfl (by decide) v _ _ hs (hown.alloc _) ⟨w.heap.size, 0, none⟩ 1 1 [.int .i64 x] hx rfl ?_ ?_ (by unfold maxLen; omega) (by omega) (by simp; omega) ?_
  · intro j u hj
    match j, hj with
    | 0, hj => simp at hj; subst hj; simp [Addr.add]
  · intro u hu
    simp at hu
    subst hu
    rfl
  · intro v' w' h1 h2 _
    exact h v' w' h1 h2
def GS (vl : List (Int × Int)) (w2 wr : World) (v : Value) (i : Nat) : Prop := wr.ownsRow w2.heap.size 3 1 v i ((vl.take i).map (fun p => Value.int .i64 p.1)) ∧ flt (vl.take i) = 0 ∧ Below w2.heap.size w2 wr
theorem nonleaf_len {op : Int} {n : Nat} (h : shp op = (n : Int)) (h1 : ¬ op = 1) (h2 : ¬ op = 2) (h3 : ¬ op = 3) (h30 : ¬ op = 30) (h5 : ¬ op = 5) : 1 ≤ n ∧ n ≤ 3 := by
  unfold shp at h
  split at h
  · omega
  · split at h
    · omega
    · split at h
      · omega
      · split at h
        · omega
        · omega
set_option maxRecDepth 100000 in
set_option maxHeartbeats 4000000 in
theorem rvalue_any {w0 : World} {e : Xt} {vs : List Value} (hE : XV w0 e vs) {ra ca : Option Addr} {rn rc cn cc : Nat} {rs : List Rw} {C : List Int} (hR : ∀ r ∈ Rws rs, ∀ c ∈ r, inR c.v) :
    ∀ (w : World), Below w0.heap.size w0 w → RL w ra rn rs → IL w ca cn C →
      Calls Try.prog 10 #[.agg vs.toArray, .slice ra rn rc, .slice ca cn cc] w fun e' w' => e' = TV (e.val (Rws rs) C) ∧ Below w.heap.size w w' := by
  induction hE with
  | @mk op num day kids ka kc V wop wnum wday hk hn hr hkids ih =>
    intro w hB hrl hil
    obtain ⟨w1, hw1⟩ : ∃ w1, w.alloc (.cells #[.int .i64 op, .int .i64 num, .int .i64 day, .slice ka kids.length kc] 24) = w1 := ⟨_, rfl⟩
    obtain ⟨b1, x1, z1⟩ := NW.is hw1
    have B1 := Lib.hid b1
    have X1 := Lib.hid x1
    have c0 := x1.c0
    have c1 := x1.c1
    have c2 := x1.c2
    have c3 := x1.c3
    have RL1 := Lib.hid hrl
    have IL1 := Lib.hid hil
    have HR := Lib.hid hr
    have HK := Lib.hid hkids
    have IH := Lib.hid ih
    have HB := Lib.hid hB
    have WN := Lib.hid wnum
    clear hrl hil hr hkids ih hB wop wnum wday hk hn b1 x1
    by_cases hs : shp op = (kids.length : Int)
    case neg =>
      have ev : (Xt.mk op num day kids).val (Rws rs) C = (0, 0) := by simp only [Xt.val]; rw [if_neg hs]
      rw [ev]
      have hs1 : (shp op != (kids.length : Int)) = true := by simpa using hs
      have hs2 : (shp op == (kids.length : Int)) = false := by simpa using hs
      go_enter Try.func10, Try.ntmps10
      go_wp2_with fail
      try rw [hw1]
      go_region_held3 (fun w' => w'.cell? ⟨w.heap.size, 0, none⟩ = some (.int .i64 op) ∧ w'.cell? ⟨w.heap.size, 3, none⟩ = some (.slice ka kids.length kc)) (refine ⟨?_, ?_⟩ <;> first | assumption | (go_simp; done))
        (first | (go_at_call 28; refine (shape_any _ _).mono ?_; rintro e w' ⟨rfl, rfl⟩))
      all_goals go_wp2
      all_goals go_ret2
      all_goals exact ⟨rfl, B1.out.drew⟩
    have hs1 : (shp op != (kids.length : Int)) = false := by simpa using hs
    have hs2 : (shp op == (kids.length : Int)) = true := by simpa using hs
    by_cases h1 : op = 1
    · subst h1
      have ev : (Xt.mk 1 num day kids).val (Rws rs) C = (num, 0) := by simp only [Xt.val]; rw [if_pos hs]; rfl
      rw [ev]
      clear ev
      go_enter Try.func10, Try.ntmps10
      go_wp2_with fail
      try rw [hw1]
      go_region_held3 (fun w' => w'.cell? ⟨w.heap.size, 0, none⟩ = some (.int .i64 1) ∧ w'.cell? ⟨w.heap.size, 3, none⟩ = some (.slice ka kids.length kc)) (refine ⟨?_, ?_⟩ <;> first | assumption | (go_simp; done))
        (first | (go_at_call 28; refine (shape_any _ _).mono ?_; rintro e w' ⟨rfl, rfl⟩))
      go_wp2
      go_ret2
      exact ⟨rfl, B1.out.drew⟩
    by_cases h2 : op = 2
    · subst h2
      have ev : (Xt.mk 2 num day kids).val (Rws rs) C = (1, 0) := by simp only [Xt.val]; rw [if_pos hs]; rfl
      rw [ev]
      clear ev
      go_enter Try.func10, Try.ntmps10
      go_wp2_with fail
      try rw [hw1]
      go_region_held3 (fun w' => w'.cell? ⟨w.heap.size, 0, none⟩ = some (.int .i64 2) ∧ w'.cell? ⟨w.heap.size, 3, none⟩ = some (.slice ka kids.length kc)) (refine ⟨?_, ?_⟩ <;> first | assumption | (go_simp; done))
        (first | (go_at_call 28; refine (shape_any _ _).mono ?_; rintro e w' ⟨rfl, rfl⟩))
      go_wp2
      go_ret2
      exact ⟨rfl, B1.out.drew⟩
    by_cases h3 : op = 3
    · subst h3
      have ev : (Xt.mk 3 num day kids).val (Rws rs) C = (0, 0) := by simp only [Xt.val]; rw [if_pos hs]; rfl
      rw [ev]
      clear ev
      go_enter Try.func10, Try.ntmps10
      go_wp2_with fail
      try rw [hw1]
      go_region_held3 (fun w' => w'.cell? ⟨w.heap.size, 0, none⟩ = some (.int .i64 3) ∧ w'.cell? ⟨w.heap.size, 3, none⟩ = some (.slice ka kids.length kc)) (refine ⟨?_, ?_⟩ <;> first | assumption | (go_simp; done))
        (first | (go_at_call 28; refine (shape_any _ _).mono ?_; rintro e w' ⟨rfl, rfl⟩))
      go_wp2
      go_ret2
      exact ⟨rfl, B1.out.drew⟩
    by_cases h30 : op = 30
    · subst h30
      have ev : (Xt.mk 30 num day kids).val (Rws rs) C = (cellR C num, 0) := by simp only [Xt.val]; rw [if_pos hs]; rfl
      rw [ev]
      clear ev
      obtain ⟨i1, i2, i3, i4⟩ := IL1.out
      subst i1
      by_cases hi : 0 ≤ num ∧ num < C.length
      · obtain ⟨k, rfl⟩ : ∃ k : Nat, num = k := ⟨num.toNat, by omega⟩
        have hk : k < C.length := by omega
        obtain ⟨g, og, rfl, hg, hc⟩ : ∃ g o, ca = some ⟨g, o, none⟩ ∧ g < w.heap.size ∧ ∀ i, i < C.length → w.cell? ⟨g, o + i, none⟩ = some (.int .i64 (C.getD i 0)) := by
          rcases i4 with h | h
          · omega
          · exact h
        have e1 : cellR C (k : Int) = C.getD k 0 := by unfold cellR; rw [if_pos hi]; rfl
        have qq := (B1.out.cell (p := ⟨g, og + k, none⟩) hg).trans (hc k hk)
        have n1 : decide ((k : Int) < 0) = false := decide_eq_false (by omega)
        have n2 : (k : Int) < (C.length : Int) := by omega
        have n3 : decide ((C.length : Int) ≤ (k : Int)) = false := decide_eq_false (by omega)
        rw [e1]
        generalize C.getD k 0 = v at *
        clear hc i4 hi e1 i3
        go_enter Try.func10, Try.ntmps10
        go_wp2_with fail
        try rw [hw1]
        go_region_held3 (fun w' => w'.cell? ⟨w.heap.size, 0, none⟩ = some (.int .i64 30) ∧ w'.cell? ⟨w.heap.size, 3, none⟩ = some (.slice ka kids.length kc)) (refine ⟨?_, ?_⟩ <;> first | assumption | (go_simp; done))
          (first | (go_at_call 28; refine (shape_any _ _).mono ?_; rintro e w' ⟨rfl, rfl⟩))
        go_wp2
        go_ret2
        exact ⟨rfl, B1.out.drew⟩
      · have e1 : cellR C num = 0 := by unfold cellR; rw [if_neg hi]
        rw [e1]
        by_cases h0 : num < 0
        · have h0' := decide_eq_true h0
          go_enter Try.func10, Try.ntmps10
          go_wp2_with fail
          try rw [hw1]
          go_region_held3 (fun w' => w'.cell? ⟨w.heap.size, 0, none⟩ = some (.int .i64 30) ∧ w'.cell? ⟨w.heap.size, 3, none⟩ = some (.slice ka kids.length kc)) (refine ⟨?_, ?_⟩ <;> first | assumption | (go_simp; done))
            (first | (go_at_call 28; refine (shape_any _ _).mono ?_; rintro e w' ⟨rfl, rfl⟩))
          go_wp2
          go_ret2
          exact ⟨rfl, B1.out.drew⟩
        · have h6 : (C.length : Int) ≤ num := by omega
          have h7 : decide ((C.length : Int) ≤ num) = true := decide_eq_true h6
          have h8 : decide (num < 0) = false := decide_eq_false h0
          clear hi
          go_enter Try.func10, Try.ntmps10
          go_wp2_with fail
          try rw [hw1]
          go_region_held3 (fun w' => w'.cell? ⟨w.heap.size, 0, none⟩ = some (.int .i64 30) ∧ w'.cell? ⟨w.heap.size, 3, none⟩ = some (.slice ka kids.length kc)) (refine ⟨?_, ?_⟩ <;> first | assumption | (go_simp; done))
            (first | (go_at_call 28; refine (shape_any _ _).mono ?_; rintro e w' ⟨rfl, rfl⟩))
          go_wp2
          go_ret2
          exact ⟨rfl, B1.out.drew⟩
    by_cases h5 : op = 5
    · subst h5
      have ev : (Xt.mk 5 num day kids).val (Rws rs) C = seenR (Rws rs) num day := by simp only [Xt.val]; rw [if_pos hs]; rfl
      rw [ev]
      clear ev
      have KC := Lib.hid (fun W (b : Below w.heap.size w W) => rseen_any (rc := rc) (RL1.out.later b) day num)
      generalize seenR (Rws rs) num day = sv at *
      go_enter Try.func10, Try.ntmps10
      go_wp2_with fail
      try rw [hw1]
      go_region_held3 (fun w' => w'.cell? ⟨w.heap.size, 0, none⟩ = some (.int .i64 5) ∧ w'.cell? ⟨w.heap.size, 3, none⟩ = some (.slice ka kids.length kc)) (refine ⟨?_, ?_⟩ <;> first | assumption | (go_simp; done))
        (first | (go_at_call 28; refine (shape_any _ _).mono ?_; rintro e w' ⟨rfl, rfl⟩))
      go_wp2_with fail
      go_at_call 29
      refine (KC.out _ B1.out.drew).mono ?_
      rintro e w2 ⟨rfl, b2⟩
      have B2 := Lib.hid (B1.out.drew.trans (b2.mono B1.out.drew.size))
      clear b2
      go_wp2
      go_ret2
      exact ⟨rfl, B2.out⟩
    have hl0 : 1 ≤ kids.length ∧ kids.length ≤ 3 := nonleaf_len hs h1 h2 h3 h30 h5
    obtain ⟨x, of, hka, hxl, hcl⟩ := HR.out.at HB.out (by omega)
    subst hka
    have hxw : x < w.heap.size := by have := HB.out.size; omega
    have KK : ∀ i, i < kids.length → ∃ a b c d : Value, RowKit.Hid (∀ W, Below w.heap.size w W → W.cell? ⟨x, of + i * 4, none⟩ = some a ∧ W.cell? ⟨x, of + i * 4 + 1, none⟩ = some b ∧ W.cell? ⟨x, of + i * 4 + 2, none⟩ = some c ∧ W.cell? ⟨x, of + i * 4 + 3, none⟩ = some d) ∧
        RowKit.Hid (∀ W, Below w.heap.size w W → Calls Try.prog 10 #[.agg #[a, b, c, d], .slice ra rn rc, .slice ca cn cc] W fun e' w' => e' = TV ((Xt.vals (Rws rs) C kids).getD i (0, 0)) ∧ Below W.heap.size W w') := fun i hi => by
      obtain ⟨a, b, c, d, hv⟩ := (HK.out i hi).four
      refine ⟨a, b, c, d, fun W hW => ?_, fun W hW => ?_⟩
      · have q := fun j hj => (hW.cell (p := ⟨x, of + i * 4 + j, none⟩) hxw).trans (hcl i hi j hj)
        have q0 := q 0 (by omega)
        have q1 := q 1 (by omega)
        have q2 := q 2 (by omega)
        have q3 := q 3 (by omega)
        rw [hv] at q0 q1 q2 q3
        exact ⟨q0, q1, q2, q3⟩
      · rw [Xt.vals_at _ _ _ _ hi]
        have := IH.out i hi W (HB.out.trans (hW.mono HB.out.size)) (RL1.out.later hW) (IL1.out.later hW)
        rw [hv] at this
        exact this
    have VI : ∀ i, inR ((Xt.vals (Rws rs) C kids).getD i (0, 0)).1 := fun i => by
      by_cases hi : i < kids.length
      · rw [Xt.vals_at _ _ _ _ hi]; exact val_in (HK.out i hi) _ _ hR IL1.out.2.2.1
      · rw [List.getD_eq_getElem?_getD, List.getElem?_eq_none (by rw [Xt.vals_len]; omega)]; exact zero_inR
    have VL := Xt.vals_len (Rws rs) C kids
    have EV : (Xt.mk op num day kids).val (Rws rs) C = comb op num (Xt.vals (Rws rs) C kids) := by simp only [Xt.val]; rw [if_pos hs, if_neg h1, if_neg h2, if_neg h3, if_neg h30, if_neg h5]
    rw [EV]
    generalize Xt.vals (Rws rs) C kids = vl at *
    clear EV IH HR HK HB RL1 IL1 WN hcl hxl
    obtain ⟨ka0, ka1, ka2, ka3, M0, K0⟩ := KK 0 (by omega)
    simp only [Nat.zero_mul, Nat.add_zero] at M0
    obtain ⟨m0, m1, m2, m3⟩ := M0.out _ B1.out
    by_cases h22 : op = 22
    · subst h22
      have hl : kids.length = 2 := by have : shp 22 = 2 := rfl; omega
      obtain ⟨kb0, kb1, kb2, kb3, M1, K1⟩ := KK 1 (by omega)
      simp only [Nat.one_mul] at M1
      have l1 : (1 : Int) < (kids.length : Int) := by omega
      have l0 : (0 : Int) < (kids.length : Int) := by omega
      rw [comb22]
      generalize vl.getD 0 (0, 0) = v0 at *
      generalize vl.getD 1 (0, 0) = v1 at *
      obtain ⟨a0, f0⟩ := v0
      obtain ⟨a1, f1⟩ := v1
      clear KK VI VL hl
      by_cases z0 : f0 = 0
      case neg =>
        have z0' : (f0 != 0) = true := by simpa using z0
        have z0'' : (f0 == 0) = false := by simpa using z0
        rw [if_pos z0]
        go_enter Try.func10, Try.ntmps10
        go_wp2_with fail
        try rw [hw1]
        go_region_held3 (fun w' => w'.cell? ⟨w.heap.size, 0, none⟩ = some (.int .i64 22) ∧ w'.cell? ⟨w.heap.size, 3, none⟩ = some (.slice (some ⟨x, of, none⟩) kids.length kc)) (refine ⟨?_, ?_⟩ <;> first | assumption | (go_simp; done))
          (first | (go_at_call 28; refine (shape_any _ _).mono ?_; rintro e w' ⟨rfl, rfl⟩))
        go_wp2_with fail
        go_at_call 10
        refine (K0.out _ B1.out.drew).mono ?_
        rintro e w2 ⟨rfl, b2⟩
        have B2 := Lib.hid (B1.out.drew.trans (b2.mono B1.out.drew.size))
        have X2 := Lib.hid (X1.out.later ((Below.refl _ _).drew.trans b2))
        have d0 := X2.out.c0
        have d1 := X2.out.c1
        have d3 := X2.out.c3
        unfold TV
        clear b2
        go_wp2
        go_ret2
        exact ⟨rfl, B2.out⟩
      rw [if_neg (by simpa using z0)]
      try simp only at z0
      subst z0
      by_cases zz : a0 = 0
      · rw [if_pos zz]
        have b1 : (a0 != 0) = false := by simpa using zz
        have b2 : (a0 == 0) = true := by simpa using zz
        go_enter Try.func10, Try.ntmps10
        go_wp2_with fail
        try rw [hw1]
        go_region_held3 (fun w' => w'.cell? ⟨w.heap.size, 0, none⟩ = some (.int .i64 22) ∧ w'.cell? ⟨w.heap.size, 3, none⟩ = some (.slice (some ⟨x, of, none⟩) kids.length kc)) (refine ⟨?_, ?_⟩ <;> first | assumption | (go_simp; done))
          (first | (go_at_call 28; refine (shape_any _ _).mono ?_; rintro e w' ⟨rfl, rfl⟩))
        go_wp2_with fail
        go_at_call 10
        refine (K0.out _ B1.out.drew).mono ?_
        rintro e w2 ⟨rfl, b2⟩
        have B2 := Lib.hid (B1.out.drew.trans (b2.mono B1.out.drew.size))
        have X2 := Lib.hid (X1.out.later ((Below.refl _ _).drew.trans b2))
        have d0 := X2.out.c0
        have d1 := X2.out.c1
        have d3 := X2.out.c3
        unfold TV
        clear b2
        go_wp2_with fail
        go_at_call 30
        refine (rtruth_any _ _).mono ?_
        rintro e w4 ⟨rfl, rfl⟩
        go_wp2
        go_ret2
        exact ⟨rfl, B2.out⟩
      rw [if_neg (by simpa using zz)]
      have b1 : (a0 != 0) = true := by simpa using zz
      have b2 : (a0 == 0) = false := by simpa using zz
      by_cases z1 : f1 = 0
      case neg =>
        have z1' : (f1 != 0) = true := by simpa using z1
        have z1'' : (f1 == 0) = false := by simpa using z1
        rw [if_neg z1]
        go_enter Try.func10, Try.ntmps10
        go_wp2_with fail
        try rw [hw1]
        go_region_held3 (fun w' => w'.cell? ⟨w.heap.size, 0, none⟩ = some (.int .i64 22) ∧ w'.cell? ⟨w.heap.size, 3, none⟩ = some (.slice (some ⟨x, of, none⟩) kids.length kc)) (refine ⟨?_, ?_⟩ <;> first | assumption | (go_simp; done))
          (first | (go_at_call 28; refine (shape_any _ _).mono ?_; rintro e w' ⟨rfl, rfl⟩))
        go_wp2_with fail
        go_at_call 10
        refine (K0.out _ B1.out.drew).mono ?_
        rintro e w2 ⟨rfl, b2⟩
        have B2 := Lib.hid (B1.out.drew.trans (b2.mono B1.out.drew.size))
        have X2 := Lib.hid (X1.out.later ((Below.refl _ _).drew.trans b2))
        have d0 := X2.out.c0
        have d1 := X2.out.c1
        have d3 := X2.out.c3
        unfold TV
        clear b2
        obtain ⟨t0, t1, t2, t3⟩ := M1.out _ B2.out
        go_wp2_with fail
        go_at_call 10
        refine (K1.out _ B2.out).mono ?_
        rintro e w3 ⟨rfl, b3⟩
        have B3 := Lib.hid (B2.out.trans (b3.mono B2.out.size))
        unfold TV
        clear b3
        go_wp2_with fail
        go_at_call 30
        refine (rtruth_any _ _).mono ?_
        rintro e w4 ⟨rfl, rfl⟩
        go_wp2
        go_ret2
        exact ⟨rfl, B3.out⟩
      rw [if_pos z1]
      try simp only at z1
      subst z1
      by_cases y1 : a1 = 0
      · have b3 : (a1 != 0) = false := by simpa using y1
        have b4 : (a1 == 0) = true := by simpa using y1
        have t1 : tr (¬ a1 = 0) = 0 := by unfold tr; rw [if_neg (by simpa using y1)]
        rw [t1]
        go_enter Try.func10, Try.ntmps10
        go_wp2_with fail
        try rw [hw1]
        go_region_held3 (fun w' => w'.cell? ⟨w.heap.size, 0, none⟩ = some (.int .i64 22) ∧ w'.cell? ⟨w.heap.size, 3, none⟩ = some (.slice (some ⟨x, of, none⟩) kids.length kc)) (refine ⟨?_, ?_⟩ <;> first | assumption | (go_simp; done))
          (first | (go_at_call 28; refine (shape_any _ _).mono ?_; rintro e w' ⟨rfl, rfl⟩))
        go_wp2_with fail
        go_at_call 10
        refine (K0.out _ B1.out.drew).mono ?_
        rintro e w2 ⟨rfl, b2⟩
        have B2 := Lib.hid (B1.out.drew.trans (b2.mono B1.out.drew.size))
        have X2 := Lib.hid (X1.out.later ((Below.refl _ _).drew.trans b2))
        have d0 := X2.out.c0
        have d1 := X2.out.c1
        have d3 := X2.out.c3
        unfold TV
        clear b2
        obtain ⟨t0, t1, t2, t3⟩ := M1.out _ B2.out
        go_wp2_with fail
        go_at_call 10
        refine (K1.out _ B2.out).mono ?_
        rintro e w3 ⟨rfl, b3⟩
        have B3 := Lib.hid (B2.out.trans (b3.mono B2.out.size))
        unfold TV
        clear b3
        go_wp2_with fail
        go_at_call 30
        refine (rtruth_any _ _).mono ?_
        rintro e w4 ⟨rfl, rfl⟩
        go_wp2
        go_ret2
        exact ⟨rfl, B3.out⟩
      · have b3 : (a1 != 0) = true := by simpa using y1
        have b4 : (a1 == 0) = false := by simpa using y1
        have t1 : tr (¬ a1 = 0) = 1 := by unfold tr; rw [if_pos y1]
        rw [t1]
        go_enter Try.func10, Try.ntmps10
        go_wp2_with fail
        try rw [hw1]
        go_region_held3 (fun w' => w'.cell? ⟨w.heap.size, 0, none⟩ = some (.int .i64 22) ∧ w'.cell? ⟨w.heap.size, 3, none⟩ = some (.slice (some ⟨x, of, none⟩) kids.length kc)) (refine ⟨?_, ?_⟩ <;> first | assumption | (go_simp; done))
          (first | (go_at_call 28; refine (shape_any _ _).mono ?_; rintro e w' ⟨rfl, rfl⟩))
        go_wp2_with fail
        go_at_call 10
        refine (K0.out _ B1.out.drew).mono ?_
        rintro e w2 ⟨rfl, b2⟩
        have B2 := Lib.hid (B1.out.drew.trans (b2.mono B1.out.drew.size))
        have X2 := Lib.hid (X1.out.later ((Below.refl _ _).drew.trans b2))
        have d0 := X2.out.c0
        have d1 := X2.out.c1
        have d3 := X2.out.c3
        unfold TV
        clear b2
        obtain ⟨t0, t1, t2, t3⟩ := M1.out _ B2.out
        go_wp2_with fail
        go_at_call 10
        refine (K1.out _ B2.out).mono ?_
        rintro e w3 ⟨rfl, b3⟩
        have B3 := Lib.hid (B2.out.trans (b3.mono B2.out.size))
        unfold TV
        clear b3
        go_wp2_with fail
        go_at_call 30
        refine (rtruth_any _ _).mono ?_
        rintro e w4 ⟨rfl, rfl⟩
        go_wp2
        go_ret2
        exact ⟨rfl, B3.out⟩
    by_cases h23 : op = 23
    · subst h23
      have hl : kids.length = 2 := by have : shp 23 = 2 := rfl; omega
      obtain ⟨kb0, kb1, kb2, kb3, M1, K1⟩ := KK 1 (by omega)
      simp only [Nat.one_mul] at M1
      have l1 : (1 : Int) < (kids.length : Int) := by omega
      have l0 : (0 : Int) < (kids.length : Int) := by omega
      rw [comb23]
      generalize vl.getD 0 (0, 0) = v0 at *
      generalize vl.getD 1 (0, 0) = v1 at *
      obtain ⟨a0, f0⟩ := v0
      obtain ⟨a1, f1⟩ := v1
      clear KK VI VL hl
      by_cases z0 : f0 = 0
      case neg =>
        have z0' : (f0 != 0) = true := by simpa using z0
        have z0'' : (f0 == 0) = false := by simpa using z0
        rw [if_pos z0]
        go_enter Try.func10, Try.ntmps10
        go_wp2_with fail
        try rw [hw1]
        go_region_held3 (fun w' => w'.cell? ⟨w.heap.size, 0, none⟩ = some (.int .i64 23) ∧ w'.cell? ⟨w.heap.size, 3, none⟩ = some (.slice (some ⟨x, of, none⟩) kids.length kc)) (refine ⟨?_, ?_⟩ <;> first | assumption | (go_simp; done))
          (first | (go_at_call 28; refine (shape_any _ _).mono ?_; rintro e w' ⟨rfl, rfl⟩))
        go_wp2_with fail
        go_at_call 10
        refine (K0.out _ B1.out.drew).mono ?_
        rintro e w2 ⟨rfl, b2⟩
        have B2 := Lib.hid (B1.out.drew.trans (b2.mono B1.out.drew.size))
        have X2 := Lib.hid (X1.out.later ((Below.refl _ _).drew.trans b2))
        have d0 := X2.out.c0
        have d1 := X2.out.c1
        have d3 := X2.out.c3
        unfold TV
        clear b2
        go_wp2
        go_ret2
        exact ⟨rfl, B2.out⟩
      rw [if_neg (by simpa using z0)]
      try simp only at z0
      subst z0
      by_cases zz : ¬ a0 = 0
      · rw [if_pos zz]
        have b1 : (a0 != 0) = true := by simpa using zz
        have b2 : (a0 == 0) = false := by simpa using zz
        go_enter Try.func10, Try.ntmps10
        go_wp2_with fail
        try rw [hw1]
        go_region_held3 (fun w' => w'.cell? ⟨w.heap.size, 0, none⟩ = some (.int .i64 23) ∧ w'.cell? ⟨w.heap.size, 3, none⟩ = some (.slice (some ⟨x, of, none⟩) kids.length kc)) (refine ⟨?_, ?_⟩ <;> first | assumption | (go_simp; done))
          (first | (go_at_call 28; refine (shape_any _ _).mono ?_; rintro e w' ⟨rfl, rfl⟩))
        go_wp2_with fail
        go_at_call 10
        refine (K0.out _ B1.out.drew).mono ?_
        rintro e w2 ⟨rfl, b2⟩
        have B2 := Lib.hid (B1.out.drew.trans (b2.mono B1.out.drew.size))
        have X2 := Lib.hid (X1.out.later ((Below.refl _ _).drew.trans b2))
        have d0 := X2.out.c0
        have d1 := X2.out.c1
        have d3 := X2.out.c3
        unfold TV
        clear b2
        go_wp2_with fail
        go_at_call 30
        refine (rtruth_any _ _).mono ?_
        rintro e w4 ⟨rfl, rfl⟩
        go_wp2
        go_ret2
        exact ⟨rfl, B2.out⟩
      rw [if_neg (by simpa using zz)]
      have b1 : (a0 != 0) = false := by simpa using zz
      have b2 : (a0 == 0) = true := by simpa using zz
      by_cases z1 : f1 = 0
      case neg =>
        have z1' : (f1 != 0) = true := by simpa using z1
        have z1'' : (f1 == 0) = false := by simpa using z1
        rw [if_neg z1]
        go_enter Try.func10, Try.ntmps10
        go_wp2_with fail
        try rw [hw1]
        go_region_held3 (fun w' => w'.cell? ⟨w.heap.size, 0, none⟩ = some (.int .i64 23) ∧ w'.cell? ⟨w.heap.size, 3, none⟩ = some (.slice (some ⟨x, of, none⟩) kids.length kc)) (refine ⟨?_, ?_⟩ <;> first | assumption | (go_simp; done))
          (first | (go_at_call 28; refine (shape_any _ _).mono ?_; rintro e w' ⟨rfl, rfl⟩))
        go_wp2_with fail
        go_at_call 10
        refine (K0.out _ B1.out.drew).mono ?_
        rintro e w2 ⟨rfl, b2⟩
        have B2 := Lib.hid (B1.out.drew.trans (b2.mono B1.out.drew.size))
        have X2 := Lib.hid (X1.out.later ((Below.refl _ _).drew.trans b2))
        have d0 := X2.out.c0
        have d1 := X2.out.c1
        have d3 := X2.out.c3
        unfold TV
        clear b2
        obtain ⟨t0, t1, t2, t3⟩ := M1.out _ B2.out
        go_wp2_with fail
        go_at_call 10
        refine (K1.out _ B2.out).mono ?_
        rintro e w3 ⟨rfl, b3⟩
        have B3 := Lib.hid (B2.out.trans (b3.mono B2.out.size))
        unfold TV
        clear b3
        go_wp2_with fail
        go_at_call 30
        refine (rtruth_any _ _).mono ?_
        rintro e w4 ⟨rfl, rfl⟩
        go_wp2
        go_ret2
        exact ⟨rfl, B3.out⟩
      rw [if_pos z1]
      try simp only at z1
      subst z1
      by_cases y1 : a1 = 0
      · have b3 : (a1 != 0) = false := by simpa using y1
        have b4 : (a1 == 0) = true := by simpa using y1
        have t1 : tr (¬ a1 = 0) = 0 := by unfold tr; rw [if_neg (by simpa using y1)]
        rw [t1]
        go_enter Try.func10, Try.ntmps10
        go_wp2_with fail
        try rw [hw1]
        go_region_held3 (fun w' => w'.cell? ⟨w.heap.size, 0, none⟩ = some (.int .i64 23) ∧ w'.cell? ⟨w.heap.size, 3, none⟩ = some (.slice (some ⟨x, of, none⟩) kids.length kc)) (refine ⟨?_, ?_⟩ <;> first | assumption | (go_simp; done))
          (first | (go_at_call 28; refine (shape_any _ _).mono ?_; rintro e w' ⟨rfl, rfl⟩))
        go_wp2_with fail
        go_at_call 10
        refine (K0.out _ B1.out.drew).mono ?_
        rintro e w2 ⟨rfl, b2⟩
        have B2 := Lib.hid (B1.out.drew.trans (b2.mono B1.out.drew.size))
        have X2 := Lib.hid (X1.out.later ((Below.refl _ _).drew.trans b2))
        have d0 := X2.out.c0
        have d1 := X2.out.c1
        have d3 := X2.out.c3
        unfold TV
        clear b2
        obtain ⟨t0, t1, t2, t3⟩ := M1.out _ B2.out
        go_wp2_with fail
        go_at_call 10
        refine (K1.out _ B2.out).mono ?_
        rintro e w3 ⟨rfl, b3⟩
        have B3 := Lib.hid (B2.out.trans (b3.mono B2.out.size))
        unfold TV
        clear b3
        go_wp2_with fail
        go_at_call 30
        refine (rtruth_any _ _).mono ?_
        rintro e w4 ⟨rfl, rfl⟩
        go_wp2
        go_ret2
        exact ⟨rfl, B3.out⟩
      · have b3 : (a1 != 0) = true := by simpa using y1
        have b4 : (a1 == 0) = false := by simpa using y1
        have t1 : tr (¬ a1 = 0) = 1 := by unfold tr; rw [if_pos y1]
        rw [t1]
        go_enter Try.func10, Try.ntmps10
        go_wp2_with fail
        try rw [hw1]
        go_region_held3 (fun w' => w'.cell? ⟨w.heap.size, 0, none⟩ = some (.int .i64 23) ∧ w'.cell? ⟨w.heap.size, 3, none⟩ = some (.slice (some ⟨x, of, none⟩) kids.length kc)) (refine ⟨?_, ?_⟩ <;> first | assumption | (go_simp; done))
          (first | (go_at_call 28; refine (shape_any _ _).mono ?_; rintro e w' ⟨rfl, rfl⟩))
        go_wp2_with fail
        go_at_call 10
        refine (K0.out _ B1.out.drew).mono ?_
        rintro e w2 ⟨rfl, b2⟩
        have B2 := Lib.hid (B1.out.drew.trans (b2.mono B1.out.drew.size))
        have X2 := Lib.hid (X1.out.later ((Below.refl _ _).drew.trans b2))
        have d0 := X2.out.c0
        have d1 := X2.out.c1
        have d3 := X2.out.c3
        unfold TV
        clear b2
        obtain ⟨t0, t1, t2, t3⟩ := M1.out _ B2.out
        go_wp2_with fail
        go_at_call 10
        refine (K1.out _ B2.out).mono ?_
        rintro e w3 ⟨rfl, b3⟩
        have B3 := Lib.hid (B2.out.trans (b3.mono B2.out.size))
        unfold TV
        clear b3
        go_wp2_with fail
        go_at_call 30
        refine (rtruth_any _ _).mono ?_
        rintro e w4 ⟨rfl, rfl⟩
        go_wp2
        go_ret2
        exact ⟨rfl, B3.out⟩
    by_cases h24 : op = 24
    · subst h24
      have hl : kids.length = 3 := by have : shp 24 = 3 := rfl; omega
      obtain ⟨kb0, kb1, kb2, kb3, M1, K1⟩ := KK 1 (by omega)
      simp only [Nat.one_mul] at M1
      obtain ⟨kc0, kc1, kc2, kc3, M2, K2⟩ := KK 2 (by omega)
      simp only [Nat.reduceMul] at M2
      have l1 : (1 : Int) < (kids.length : Int) := by omega
      have l0 : (0 : Int) < (kids.length : Int) := by omega
      have l2 : (2 : Int) < (kids.length : Int) := by omega
      rw [comb24]
      generalize vl.getD 0 (0, 0) = v0 at *
      generalize vl.getD 1 (0, 0) = v1 at *
      generalize vl.getD 2 (0, 0) = v2 at *
      obtain ⟨a2, f2⟩ := v2
      obtain ⟨a0, f0⟩ := v0
      obtain ⟨a1, f1⟩ := v1
      clear KK VI VL hl
      by_cases z0 : f0 = 0
      case neg =>
        have z0' : (f0 != 0) = true := by simpa using z0
        have z0'' : (f0 == 0) = false := by simpa using z0
        rw [if_pos z0]
        go_enter Try.func10, Try.ntmps10
        go_wp2_with fail
        try rw [hw1]
        go_region_held3 (fun w' => w'.cell? ⟨w.heap.size, 0, none⟩ = some (.int .i64 24) ∧ w'.cell? ⟨w.heap.size, 3, none⟩ = some (.slice (some ⟨x, of, none⟩) kids.length kc)) (refine ⟨?_, ?_⟩ <;> first | assumption | (go_simp; done))
          (first | (go_at_call 28; refine (shape_any _ _).mono ?_; rintro e w' ⟨rfl, rfl⟩))
        go_wp2_with fail
        go_at_call 10
        refine (K0.out _ B1.out.drew).mono ?_
        rintro e w2 ⟨rfl, b2⟩
        have B2 := Lib.hid (B1.out.drew.trans (b2.mono B1.out.drew.size))
        have X2 := Lib.hid (X1.out.later ((Below.refl _ _).drew.trans b2))
        have d0 := X2.out.c0
        have d1 := X2.out.c1
        have d3 := X2.out.c3
        unfold TV
        clear b2
        go_wp2
        go_ret2
        exact ⟨rfl, B2.out⟩
      rw [if_neg (by simpa using z0)]
      try simp only at z0
      subst z0
      by_cases zz : ¬ a0 = 0
      · rw [if_pos zz]
        have b1 : (a0 != 0) = true := by simpa using zz
        have b2 : (a0 == 0) = false := by simpa using zz
        go_enter Try.func10, Try.ntmps10
        go_wp2_with fail
        try rw [hw1]
        go_region_held3 (fun w' => w'.cell? ⟨w.heap.size, 0, none⟩ = some (.int .i64 24) ∧ w'.cell? ⟨w.heap.size, 3, none⟩ = some (.slice (some ⟨x, of, none⟩) kids.length kc)) (refine ⟨?_, ?_⟩ <;> first | assumption | (go_simp; done))
          (first | (go_at_call 28; refine (shape_any _ _).mono ?_; rintro e w' ⟨rfl, rfl⟩))
        go_wp2_with fail
        go_at_call 10
        refine (K0.out _ B1.out.drew).mono ?_
        rintro e w2 ⟨rfl, b2⟩
        have B2 := Lib.hid (B1.out.drew.trans (b2.mono B1.out.drew.size))
        have X2 := Lib.hid (X1.out.later ((Below.refl _ _).drew.trans b2))
        have d0 := X2.out.c0
        have d1 := X2.out.c1
        have d3 := X2.out.c3
        unfold TV
        clear b2
        obtain ⟨t0, t1, t2, t3⟩ := M1.out _ B2.out
        go_wp2_with fail
        go_at_call 10
        refine (K1.out _ B2.out).mono ?_
        rintro e w3 ⟨rfl, b3⟩
        have B3 := Lib.hid (B2.out.trans (b3.mono B2.out.size))
        unfold TV
        clear b3
        go_wp2
        go_ret2
        exact ⟨rfl, B3.out⟩
      · rw [if_neg (by simpa using zz)]
        have b1 : (a0 != 0) = false := by simpa using zz
        have b2 : (a0 == 0) = true := by simpa using zz
        go_enter Try.func10, Try.ntmps10
        go_wp2_with fail
        try rw [hw1]
        go_region_held3 (fun w' => w'.cell? ⟨w.heap.size, 0, none⟩ = some (.int .i64 24) ∧ w'.cell? ⟨w.heap.size, 3, none⟩ = some (.slice (some ⟨x, of, none⟩) kids.length kc)) (refine ⟨?_, ?_⟩ <;> first | assumption | (go_simp; done))
          (first | (go_at_call 28; refine (shape_any _ _).mono ?_; rintro e w' ⟨rfl, rfl⟩))
        go_wp2_with fail
        go_at_call 10
        refine (K0.out _ B1.out.drew).mono ?_
        rintro e w2 ⟨rfl, b2⟩
        have B2 := Lib.hid (B1.out.drew.trans (b2.mono B1.out.drew.size))
        have X2 := Lib.hid (X1.out.later ((Below.refl _ _).drew.trans b2))
        have d0 := X2.out.c0
        have d1 := X2.out.c1
        have d3 := X2.out.c3
        unfold TV
        clear b2
        obtain ⟨t0, t1, t2, t3⟩ := M2.out _ B2.out
        go_wp2_with fail
        go_at_call 10
        refine (K2.out _ B2.out).mono ?_
        rintro e w3 ⟨rfl, b3⟩
        have B3 := Lib.hid (B2.out.trans (b3.mono B2.out.size))
        unfold TV
        clear b3
        go_wp2
        go_ret2
        exact ⟨rfl, B3.out⟩
    have hG : Gop op := gop_of hs h1 h2 h3 h30 h5 h22 h23 h24
    rw [comb_gen op num hG vl (by omega)]
    have n1 : (op == 1) = false := by simpa using h1
    have n2 : (op == 2) = false := by simpa using h2
    have n3 : (op == 3) = false := by simpa using h3
    have n5 : (op == 5) = false := by simpa using h5
    have n30 : (op == 30) = false := by simpa using h30
    have n22 : (op == 22) = false := by simpa using h22
    have n23 : (op == 23) = false := by simpa using h23
    have n24 : (op == 24) = false := by simpa using h24
    have l0 : (0 : Int) < (kids.length : Int) := by omega
    obtain ⟨ft1, ft2⟩ := flt_take vl 0 (by omega) rfl
    generalize hv0 : vl.getD 0 (0, 0) = v0 at *
    obtain ⟨a0, f0⟩ := v0
    simp only at ft1 ft2
    by_cases z0 : f0 = 0
    case neg =>
      have z0' : (f0 != 0) = true := by simpa using z0
      have z0'' : (f0 == 0) = false := by simpa using z0
      have ec : (if flt vl = 0 then opR op num (a0, f0).1 (vl.getD 1 (0, 0)).1 (vl.getD 2 (0, 0)).1 else (0, flt vl)) = (0, f0) := by rw [ft2 z0, if_neg z0]
      rw [ec]
      go_enter Try.func10, Try.ntmps10
      go_wp2_with fail
      try rw [hw1]
      go_region_held3 (fun w' => w'.cell? ⟨w.heap.size, 0, none⟩ = some (.int .i64 op) ∧ w'.cell? ⟨w.heap.size, 3, none⟩ = some (.slice (some ⟨x, of, none⟩) kids.length kc)) (refine ⟨?_, ?_⟩ <;> first | assumption | (go_simp; done))
        (first | (go_at_call 28; refine (shape_any _ _).mono ?_; rintro e w' ⟨rfl, rfl⟩))
      go_wp2_with fail
      go_at_call 10
      refine (K0.out _ B1.out.drew).mono ?_
      rintro e w2 ⟨rfl, b2⟩
      have B2 := Lib.hid (B1.out.drew.trans (b2.mono B1.out.drew.size))
      have X2 := Lib.hid (X1.out.later ((Below.refl _ _).drew.trans b2))
      have d0 := X2.out.c0
      have d1 := X2.out.c1
      have d3 := X2.out.c3
      unfold TV
      clear b2
      go_wp2
      go_ret2
      exact ⟨rfl, B2.out⟩
    try simp only at z0
    subst z0
    have HV0 := Lib.hid hv0
    have FT1 := Lib.hid ft1
    have KQ := Lib.hid KK
    clear hv0 ft1 ft2 KK
    obtain ⟨RES, hRES⟩ : ∃ RES, (if flt vl = 0 then opR op num (a0, 0).1 (vl.getD 1 (0, 0)).1 (vl.getD 2 (0, 0)).1 else (0, flt vl)) = RES := ⟨_, rfl⟩
    rw [hRES]
    have HRES := Lib.hid hRES
    clear hRES
    go_enter Try.func10, Try.ntmps10
    go_wp2_with fail
    try rw [hw1]
    go_region_held3 (fun w' => w'.cell? ⟨w.heap.size, 0, none⟩ = some (.int .i64 op) ∧ w'.cell? ⟨w.heap.size, 3, none⟩ = some (.slice (some ⟨x, of, none⟩) kids.length kc)) (refine ⟨?_, ?_⟩ <;> first | assumption | (go_simp; done))
      (first | (go_at_call 28; refine (shape_any _ _).mono ?_; rintro e w' ⟨rfl, rfl⟩))
    go_wp2_with fail
    go_at_call 10
    refine (K0.out _ B1.out.drew).mono ?_
    rintro e w2 ⟨rfl, b2⟩
    have B2 := Lib.hid (B1.out.drew.trans (b2.mono B1.out.drew.size))
    have X2 := Lib.hid (X1.out.later ((Below.refl _ _).drew.trans b2))
    have d0 := X2.out.c0
    have d1 := X2.out.c1
    have d3 := X2.out.c3
    unfold TV
    clear b2
    go_wp2_with fail
    go_loopw [12, 13] (fun v t wr => ∃ (i : Nat), 1 ≤ i ∧ i ≤ kids.length ∧ t = .int .i64 i ∧ GS vl w2 wr v i) (fun _ t _ => kids.length - (intOf t).toNat)
    case atStart =>
      refine ⟨1, by omega, by omega, rfl, ⟨by simp; omega, .inr ⟨w2.heap.size, 1, #[.int .i64 a0], rfl, Nat.le_refl _, heap_alloc_new w2 _, by omega, by unfold maxLen; omega, rfl, ?_⟩⟩, by rw [FT1.out], (Below.refl _ _).alloc (Nat.le_refl _) _⟩
      obtain ⟨p0, r0, rfl⟩ := List.exists_cons_of_ne_nil (show vl ≠ [] from fun e => by rw [e] at VL; simp at VL; omega)
      have := HV0.out
      simp only [List.getD_cons_zero] at this
      subst this
      rfl
    case round =>
      rename World => wr
      obtain ⟨i, hi1, hi2, rfl, hown, hflt, hBr⟩ := hrel
      have OW := Lib.hid hown
      have BR := Lib.hid hBr
      have BW := Lib.hid (B2.out.trans (hBr.mono B2.out.size))
      have X3 := Lib.hid (X2.out.later hBr)
      replace d0 := X3.out.c0
      replace d1 := X3.out.c1
      replace d3 := X3.out.c3
      clear hown hBr
      by_cases il : i < kids.length
      · have ic : (i : Int) < (kids.length : Int) := by omega
        obtain ⟨q0, q1, q2, q3, MI, KI⟩ := KQ.out i il
        obtain ⟨t0, t1, t2, t3⟩ := MI.out _ BW.out
        obtain ⟨gt1, gt2⟩ := flt_take vl i (by omega) hflt
        have GT := Lib.hid (And.intro gt1 gt2)
        have TK := Lib.hid (show (vl.take (i + 1)).map (fun p => Value.int .i64 p.1) = (vl.take i).map (fun p => Value.int .i64 p.1) ++ [.int .i64 (vl.getD i (0, 0)).1] by
          rw [List.take_add_one, List.map_append, List.getElem?_eq_getElem (by omega)]
          simp [List.getD, show i < vl.length by omega])
        clear gt1 gt2
        generalize hvi : vl.getD i (0, 0) = vi at *
        obtain ⟨ai, fi⟩ := vi
        have HVI := Lib.hid hvi
        clear hvi
        by_cases zf : fi = 0
        · try simp only at zf
          subst zf
          go_wp2_with fail
          go_at_call 10
          refine (KI.out _ BW.out).mono ?_
          rintro e w3 ⟨rfl, b3⟩
          unfold TV
          have OW3 := Lib.hid (own_keep OW.out (fun k hk => b3.block k (OW.out.lt k hk).2))
          have B3 := Lib.hid (BR.out.trans (b3.mono BR.out.size))
          clear b3
          go_wp2_with (at_builtin; refine wp_int _ ai rfl _ _ rfl w2.heap.size _ i _ rfl rfl OW3.out (by omega) B3.out.size ?_; intro v' w4 h1' h2'; have O4 := Lib.hid h1'; have B4 := Lib.hid ((B3.out.alloc B3.out.size _).grown h2' (Nat.le_trans B3.out.size (by simp)) (fun k e => (OW3.out.lt k e).1)); clear h1' h2')
          exact ⟨⟨i + 1, by omega, by omega, by simp, by rw [TK.out]; exact O4.out, by have := GT.out.1; simpa using this, B4.out⟩, by simp [intOf]; omega⟩
        · have zf1 : (fi != 0) = true := by simpa using zf
          have zf2 : (fi == 0) = false := by simpa using zf
          have ER : RES = (0, fi) := by rw [← HRES.out, GT.out.2 zf, if_neg zf]
          subst ER
          go_wp2_with fail
          go_at_call 10
          refine (KI.out _ BW.out).mono ?_
          rintro e w3 ⟨rfl, b3⟩
          unfold TV
          have B3 := Lib.hid (BW.out.trans (b3.mono BW.out.size))
          clear b3
          go_wp2
          go_ret2
          exact ⟨rfl, B3.out⟩
      · obtain rfl : i = kids.length := by omega
        have hfl : flt vl = 0 := by rw [List.take_of_length_le (by omega)] at hflt; exact hflt
        have ER : RES = opR op num a0 (vl.getD 1 (0, 0)).1 (vl.getD 2 (0, 0)).1 := by rw [← HRES.out, hfl, if_pos rfl]
        obtain ⟨k', hk'⟩ : ∃ k', kids.length = k' + 1 := ⟨kids.length - 1, by omega⟩
        obtain ⟨gg, cap, rfl⟩ := xown_one (n := k') (by rw [← hk']; exact OW.out)
        rw [← hk'] at OW
        obtain ⟨_, _, ol, oc⟩ := xown_cell OW.out
        have oc' : ∀ j, j < kids.length → wr.cell? ⟨gg, j, none⟩ = some (.int .i64 (vl.getD j (0, 0)).1) := fun j hj => by
          rw [oc j hj, List.take_of_length_le (by omega)]
          simp [List.getD, show j < vl.length by omega]
        have KO := Lib.hid (rop_any op hG gg cap kids.length hs num a0 (vl.getD 1 (0, 0)).1 (vl.getD 2 (0, 0)).1 (by have := VI 0; rw [HV0.out] at this; exact this) (VI 1) (VI 2) wr (by have := oc' 0 (by omega); rw [HV0.out] at this; exact this) (fun h => oc' 1 h) (fun h => oc' 2 h))
        rw [← ER] at KO
        rw [← hk']
        clear ER oc oc' ol hk' hflt hfl
        go_wp2_with fail
        go_at_call 31
        refine KO.out.mono ?_
        rintro e w3 ⟨rfl, b3⟩
        have B3 := Lib.hid (BW.out.trans (b3.mono BW.out.size))
        clear b3
        go_wp2
        go_ret2
        exact ⟨rfl, B3.out⟩
end Go.Proofs.Ytjlnbhmiahegmaa
