/-
  What legs' player holds; one action played (act).
-/
import Derived.Test.YtjlnbhmiahegmaaWP4
import Derived.Test.YtjlnbhmiahegmaaWXHc
namespace Go.Proofs.Ytjlnbhmiahegmaa
open Go.RowKit
set_option linter.unusedVariables false
set_option linter.unusedSimpArgs false

structure PL (O : Nat → Option Obj) (wS w : World) (pb : Nat) (ra : Option Addr) (rn rc : Nat) (rs : List Rw) (cb : Nat) (C : List Int) (fv : Value) (F : List Fl) : Prop where
  bel : Below wS.heap.size wS w
  rl : RL wS ra rn rs
  p : Bk w pb #[.slice ra rn rc, .slice (some ⟨cb, 0, none⟩) C.length C.length, fv, .int .i64 0, .int .i64 0] 77
  plo : wS.heap.size ≤ pb
  clo : wS.heap.size ≤ cb
  c : IB w cb C
  cn : C.length ≤ 17592186043904
  cbd : ∀ x ∈ C, inR x
  fo : w.ownsRow wS.heap.size 51 3 fv F.length (fcs F)
  kp : ∀ k o, O k = some o → w.heap[k]? = some o ∧ k ≠ pb ∧ k ≠ cb ∧ some k ≠ fv.ownBlock
section
variable {O : Nat → Option Obj} {wS w w' : World} {pb : Nat} {ra : Option Addr} {rn rc : Nat} {rs : List Rw} {cb : Nat} {C : List Int} {fv : Value} {F : List Fl}
theorem PL.later (h : PL O wS w pb ra rn rc rs cb C fv F) (b : Below w.heap.size w w') : PL O wS w' pb ra rn rc rs cb C fv F :=
  ⟨h.bel.trans (b.mono h.bel.size), h.rl, h.p.below b h.p.lt, h.plo, h.clo, h.c.keep (b.block cb h.c.lt), h.cn, h.cbd, own_keep h.fo (fun k hk => b.block k (h.fo.lt k hk).2), fun k o hk => ⟨(b.block k (Array.getElem?_eq_some_iff.1 (h.kp k o hk).1).1).trans (h.kp k o hk).1, (h.kp k o hk).2⟩⟩
theorem PL.drew (h : PL O wS w pb ra rn rc rs cb C fv F) : PL O wS w.drew pb ra rn rc rs cb C fv F := h.later (Below.refl _ _).drew
theorem PL.ws (h : PL O wS w pb ra rn rc rs cb C fv F) : WS w pb ra (some ⟨cb, 0, none⟩) rn rc C.length C.length rs C :=
  ⟨h.p.cell 0, h.p.cell 1, h.rl.later h.bel, h.c.il h.cn h.cbd⟩
theorem PL.ne1 (h : PL O wS w pb ra rn rc rs cb C fv F) : some pb ≠ fv.ownBlock := fun e => by
  rcases h.fo.2 with ⟨q, _⟩ | ⟨g, cap, cur, q, _, q3, _⟩
  · rw [q] at e; cases e
  · rw [q] at e; simp [Value.ownBlock] at e; subst e
    have := h.p; unfold Bk at this; rw [q3] at this; injection this with this; injection this with _ q4; revert q4; decide
theorem PL.ne2 (h : PL O wS w pb ra rn rc rs cb C fv F) : some cb ≠ fv.ownBlock := fun e => by
  rcases h.fo.2 with ⟨q, _⟩ | ⟨g, cap, cur, q, _, q3, _⟩
  · rw [q] at e; cases e
  · rw [q] at e; simp [Value.ownBlock] at e; subst e
    obtain ⟨cu, h1, _⟩ := h.c; unfold Bk at h1; rw [q3] at h1; injection h1 with h1; injection h1 with _ q4; revert q4; decide
theorem PL.ne3 (h : PL O wS w pb ra rn rc rs cb C fv F) : pb ≠ cb := fun e => by
  obtain ⟨cu, h1, _⟩ := h.c
  have := h.p
  subst e
  unfold Bk at h1 this
  rw [h1] at this
  injection this with this; injection this with _ q4; revert q4; decide
theorem PL.flow {w6 w7 : World} {v' : Value} {f : Fl} (h : PL O wS w pb ra rn rc rs cb C fv F) (b6 : Below w.heap.size w w6) (g : w6.grownBy w7 fv.ownBlock) (hl : ∀ y, v'.ownBlock = some y → fv.ownBlock = some y ∨ y = w6.heap.size) (ho : w7.ownsRow wS.heap.size 51 3 v' (F.length + 1) (fcs F ++ [.int .i64 f.d, .string f.c, .int .i64 f.a])) :
    PL O wS (w7.setCell ⟨pb, 2, none⟩ v') pb ra rn rc rs cb C v' (F ++ [f]) := by
  have h6 := h.later b6
  have p7 : Bk w7 pb #[.slice ra rn rc, .slice (some ⟨cb, 0, none⟩) C.length C.length, fv, .int .i64 0, .int .i64 0] 77 := h6.p.grown g h6.ne1
  have hv : ∀ y, fv.ownBlock = some y → wS.heap.size ≤ y := fun y e => (h6.fo.lt y e).1
  have b7 : Below wS.heap.size wS w7 := ⟨g.os.trans h6.bel.os, g.tape.trans h6.bel.tape, g.output.trans h6.bel.output, Nat.le_trans h6.bel.size g.size, fun k hk => (g.block k (Nat.lt_of_lt_of_le hk h6.bel.size) (fun e => by have := hv k e.symm; omega)).trans (h6.bel.block k hk)⟩
  refine ⟨b7.setCell (p := ⟨pb, 2, none⟩) h.plo _, h.rl, ?_, h.plo, h.clo, (h6.c.keep (g.block cb h6.c.lt h6.ne2)).keep (heap_set_other _ _ _ _ _ h.ne3), h.cn, h.cbd, ?_, fun k o hk => ?_⟩
  · have := p7.set 2 v' (by simp)
    simpa using this
  · have e : w7.ownsRow wS.heap.size 51 3 v' (F ++ [f]).length (fcs (F ++ [f])) := by rw [fcs_snoc, List.length_append]; exact ho
    refine own_keep e (fun k hk => heap_set_other _ _ _ _ _ (fun q => ?_))
    subst q
    rcases ho.2 with ⟨q, _⟩ | ⟨g', cap, cur, q, _, q3, _⟩
    · rw [q] at hk; cases hk
    · rw [q] at hk; simp [Value.ownBlock] at hk; subst hk
      unfold Bk at p7; rw [q3] at p7; injection p7 with p7; injection p7 with _ q4; revert q4; decide
  · obtain ⟨k1, k2, k3, k4⟩ := h6.kp k o hk
    have kl := (Array.getElem?_eq_some_iff.1 k1).1
    refine ⟨by rw [heap_set_other _ _ _ _ _ (Ne.symm k2), g.block k kl k4]; exact k1, k2, k3, fun e => ?_⟩
    rcases hl k e.symm with q | q
    · exact k4 q.symm
    · omega
theorem PL.cell (h : PL O wS w pb ra rn rc rs cb C fv F) (i : Nat) (hi : i < C.length) (v : Int) (hv : inR v) : PL O wS (w.setCell ⟨cb, i, none⟩ (.int .i64 v)) pb ra rn rc rs cb (C.set i v) fv F := by
  refine ⟨h.bel.setCell (p := ⟨cb, i, none⟩) h.clo _, h.rl, ?_, h.plo, h.clo, h.c.put i hi v, by rw [List.length_set]; exact h.cn, fun x hx => ?_, own_keep h.fo (fun k hk => heap_set_other _ _ _ _ _ (fun q => ?_)), fun k o hk => ⟨by rw [heap_set_other _ _ _ _ _ (Ne.symm (h.kp k o hk).2.2.1)]; exact (h.kp k o hk).1, (h.kp k o hk).2⟩⟩
  · have := h.p.other cb i (.int .i64 v) (Ne.symm h.ne3)
    rw [List.length_set]; exact this
  · rcases List.mem_or_eq_of_mem_set hx with q | q
    · exact h.cbd x q
    · rw [q]; exact hv
  · subst q; exact h.ne2 hk.symm
end
theorem step_flow {ops : Array Oper} {o : Oper} {a : Act} {K : Act → World → Prop} {Q : Exit → Act → World → Prop} {E : Prop} (w : World) (hgd : o.guard = none) (s x : Operand)
    (ho : o.op = .call { callee := .builtin .append, args := #[s, x], argTypes := #[42, 42] }) (base : Nat) (v : Value) (k : Nat) (xs : List Value) (hs : a.eval s = v)
    (hown : w.ownsRow base 51 3 v k xs) (Bn : Nat) (d m : Int) (c : ByteArray) (fr : Nat × Nat) (hx : a.eval x = .slice (some ⟨Bn, 0, none⟩) 1 1) (hb : w.heap[Bn]? = some (.cells #[.int .i64 d, .string c, .int .i64 m] 51 fr)) (hl : k ≤ 4096) (hbase : base ≤ w.heap.size)
    (h : ∀ g cap w', w'.ownsRow base 51 3 (.slice (some ⟨g, 0, none⟩) (k + 1) cap) (k + 1) (xs ++ [.int .i64 d, .string c, .int .i64 m]) → w.grownBy w' v.ownBlock → (v.ownBlock = some g ∨ g = w.heap.size) → g < w'.heap.size → K (a.put o.dst (.slice (some ⟨g, 0, none⟩) (k + 1) cap)) w') :
    if Region.wanted o (yielded ops a.tmps) = true then Oper.wp Try.prog o a w K Q else E := by
  obtain ⟨i0, hi, hz0, hz1, hz2⟩ := info_parts infoF
  exact step_append_lies w hgd s x 42 ho base 51 i0 (.agg #[.int .i64 0, .string ⟨#[]⟩, .int .i64 0]) 3 32 Try.underlying42 hi hz0 hz1 hz2 rfl (by decide) v k xs hs hown ⟨Bn, 0, none⟩ 1 1 [.int .i64 d, .string c, .int .i64 m] hx rfl (fun j u hj => World.news_of_block hb j u hj) (fun u hu => by simp at hu; rcases hu with rfl | rfl | rfl <;> rfl) (by omega) (by unfold maxLen; omega) (by omega) hbase w.heap.size rfl h
end Go.Proofs.Ytjlnbhmiahegmaa

namespace Go.Proofs.Ytjlnbhmiahegmaa
open Go.RowKit
set_option linter.unusedVariables false
set_option linter.unusedSimpArgs false

/-- What act ends with. -/
def ActE (O : Nat → Option Obj) (wS : World) (pb : Nat) (ra : Option Addr) (rn rc : Nat) (rs : List Rw) (cb : Nat) (C : List Int) (fv : Value) (F : List Fl) (a : At) (e : Ending) (w' : World) : Prop :=
  (¬ (doneR (Rws rs) C a).2.2 = 0 ∧ e = pnc (doneR (Rws rs) C a).2.2 ∧ PL O wS w' pb ra rn rc rs cb C fv F) ∨
  ((doneR (Rws rs) C a).2.2 = 0 ∧ (∃ u, e = .returned u) ∧ (((doneR (Rws rs) C a).2.1 = false ∧ PL O wS w' pb ra rn rc rs cb C fv F) ∨
    ((doneR (Rws rs) C a).2.1 = true ∧ a.kind = 1 ∧ ∃ fv', PL O wS w' pb ra rn rc rs cb C fv' (F ++ [⟨a.day, a.cur, (doneR (Rws rs) C a).1⟩])) ∨
    ((doneR (Rws rs) C a).2.1 = true ∧ ¬ a.kind = 1 ∧ PL O wS w' pb ra rn rc rs cb (C.set a.cell.toNat (doneR (Rws rs) C a).1) fv F)))
theorem done_pass {R : List (List Cl)} {C : List Int} {a : At} (h : ¬ (passF R C a.ss).1 = 0) : doneR R C a = (0, false, (passF R C a.ss).1) := by unfold doneR; rw [if_pos h]
theorem done_not {R : List (List Cl)} {C : List Int} {a : At} (h : passF R C a.ss = (0, false)) : doneR R C a = (0, false, 0) := by unfold doneR; rw [h]; simp
theorem done_turn {R : List (List Cl)} {C : List Int} {a : At} (h : passF R C a.ss = (0, true)) {t : Int × Int} (ht : turnR R C a.ss (a.e.val R C) = t) : doneR R C a = if ¬ t.2 = 0 then (0, false, t.2) else (t.1, true, 0) := by
  unfold doneR; rw [h, ht]; simp
set_option maxRecDepth 100000 in
set_option maxHeartbeats 4000000 in
theorem act_any {O : Nat → Option Obj} {wS w : World} {a : At} (hA : AV wS a) {p q : Nat} (hc : AC wS p q a) (hp : p < wS.heap.size) {pb : Nat} {ra : Option Addr} {rn rc : Nat} {rs : List Rw} {cb : Nat} {C : List Int} {fv : Value} {F : List Fl} (hP : PL O wS w pb ra rn rc rs cb C fv F)
    (hR : ∀ r ∈ Rws rs, ∀ c ∈ r, inR c.v) (hN : ∀ s ∈ a.ss, s.e.n ≤ 1048576) (hNe : a.e.n ≤ 1048576) (hI : isA a (C.length : Int)) (hF : F.length ≤ 2048) :
    Calls Try.prog 49 #[.pointer (some ⟨pb, 0, none⟩), .pointer (some ⟨p, q, none⟩)] w (ActE O wS pb ra rn rc rs cb C fv F a) := by
  have AW := hc.later hP.bel hp
  have c2 := AW.ss
  have KP := Lib.hid (pass_any (sc := a.sc) hA.2.2.2.2.2.1 hP.bel hP.ws hR hN (fun i hi => kind_at hI.1 i hi))
  have HP := Lib.hid hP
  have HA := Lib.hid hA
  have HC := Lib.hid hc
  have HR := Lib.hid hR
  have HNe := Lib.hid hNe
  have HI := Lib.hid hI
  have HX := Lib.hid (val_in hA.2.2.2.1 (Rws rs) C hR hP.cbd)
  have HXS := Lib.hid (show ∀ i, i < a.ss.length → inR ((a.ss.getD i default).e.val (Rws rs) C).1 from fun i hi => val_in (hA.2.2.2.2.2.1.2.1 _ (by rw [show a.ss.getD i default = a.ss[i] by simp [List.getD, hi]]; exact List.getElem_mem hi)).2 (Rws rs) C hR hP.cbd)
  have HF := Lib.hid hF
  clear AW hA hc hP hR hN hNe hI hF
  go_enter Try.func49, Try.ntmps49
  go_wp2_with fail
  go_at_call 65
  refine KP.out.mono ?_
  rintro e w1 ⟨hpe, b1⟩
  have P1 := Lib.hid (HP.out.later b1)
  clear KP c2 b1 HP
  rcases hpe with ⟨z, rfl⟩ | ⟨pf, rfl⟩ | ⟨pf, fb, rfl, hfb⟩
  · have D := Lib.hid (done_pass z)
    unfold pnc
    go_wp2
    exact ⟨rfl, .inl ⟨by rw [D.out]; exact z, by rw [D.out]; rfl, P1.out⟩⟩
  · have D := Lib.hid (done_not pf)
    go_wp2
    refine bodyPost_ret (results_none rfl _ _ _) rfl ?_
    exact .inr ⟨by rw [D.out], ⟨_, rfl⟩, .inl ⟨by rw [D.out], P1.out⟩⟩
  · have AW := HC.out.later P1.out.bel hp
    have c1 := AW.kind
    have c2 := AW.ss
    have PF := Lib.hid pf
    have FBB := Lib.hid hfb
    have hp1 : p < w1.heap.size := Nat.lt_of_lt_of_le hp P1.out.bel.size
    have AW1 := Lib.hid AW
    have KV := Lib.hid (fun W (b' : Below w1.heap.size w1 W) => value_any (wp := pb) HA.out.2.2.2.1 HR.out P1.out.cbd HNe.out W p (q + 3) (P1.out.bel.trans (b'.mono P1.out.bel.size)) (P1.out.ws.later b') (fun j hj => (b'.cell (p := ⟨p, q + 3 + j, none⟩) hp1).trans (AW1.out.x j hj)))
    have KT := Lib.hid (fun W (b' : Below w1.heap.size w1 W) (v : Int) (hv : inR v) => turn_any (sc := a.sc) HA.out.2.2.2.2.2.1 (P1.out.bel.trans (b'.mono P1.out.bel.size)) (FBB.out.later b') HXS.out (fun i hi => kind_at HI.out.1 i hi) v hv)
    clear AW pf hfb
    obtain ⟨⟨vv, ff⟩, hv⟩ : ∃ r, a.e.val (Rws rs) C = r := ⟨_, rfl⟩
    rw [hv] at KV HX
    have HV := Lib.hid hv
    clear hv
    by_cases z : ff = 0
    · subst z
      obtain ⟨⟨tv, tf⟩, ht⟩ : ∃ r, turnR (Rws rs) C a.ss (vv, 0) = r := ⟨_, rfl⟩
      have HT := Lib.hid ht
      have D := Lib.hid (done_turn PF.out (show turnR (Rws rs) C a.ss (a.e.val (Rws rs) C) = (tv, tf) by rw [HV.out]; exact ht))
      have TI := Lib.hid (show inR tv from by have := turnR_in (R := Rws rs) (C := C) a.ss (vv, 0) HX.out; rw [ht] at this; exact this)
      clear ht
      by_cases zt : tf = 0
      · subst zt
        go_wp2_with fail
        go_region_held3 (fun w' => w'.cell? ⟨p, q + 2, none⟩ = some (.slice a.sa a.ss.length a.sc)) (first | assumption | (go_simp; done))
          (first
          | (go_at_call 27; refine (KV.out _ (Below.refl _ _).drew).mono ?_; rintro e w2 ⟨he, b2⟩; have B2 := Lib.hid (show Below w1.heap.size w1 w2 from (Below.refl _ _).drew.trans b2); have u1 := (B2.out.cell (p := ⟨p, q + 2, none⟩) hp1).trans c2; have he' := he.ok rfl; subst he'; clear b2 he)
          | (go_at_call 66; refine (KT.out _ B2.out _ HX.out).mono ?_; rintro e w3 ⟨he, hw3⟩; have hw3' := hw3.symm; subst hw3'; rw [HT.out] at he; have he' := he.ok rfl; subst he'; clear he))
        all_goals
          have P2 := Lib.hid (P1.out.later B2.out)
          have AW2 := Lib.hid (AW1.out.later B2.out hp1)
          have k1 := AW2.out.kind
          have DD := Lib.hid (show doneR (Rws rs) C a = (tv, true, 0) from by rw [D.out]; simp)
          rcases HI.out.2 with ⟨hk, _⟩ | ⟨hk, hc0, hc1⟩
          · rw [hk] at k1
            have HKK := Lib.hid hk
            have d0 := AW2.out.day
            have d7 := AW2.out.cur
            have y2 := P2.out.p.cell 2
            simp at y2
            clear hk
            have LW := Lib.hid (show Below w2.heap.size w2 (w2.alloc (.cells #[.int .i64 a.day, .string a.cur, .int .i64 tv] 51)) from (Below.refl _ _).alloc (Nat.le_refl _) _)
            have PA := Lib.hid (P2.out.later LW.out).drew
            have e0 := (AW2.out.later LW.out (Nat.lt_of_lt_of_le hp (P2.out.bel.size))).day
            have e7 := (AW2.out.later LW.out (Nat.lt_of_lt_of_le hp (P2.out.bel.size))).cur
            have z2 := (P2.out.later LW.out).p.cell 2
            simp at z2
            have hfl := HF.out
            go_wp2_with fail
            go_region_law (refine step_flow _ rfl _ _ rfl wS.heap.size fv F.length (fcs F) rfl PA.out.fo w2.heap.size a.day tv a.cur (0, 0) rfl (heap_alloc_new w2 _) (by omega) PA.out.bel.size ?_; intro g cap w7 h1 h2 h3 h4; have O7 := Lib.hid h1; have G7 := Lib.hid h2; have L7 := Lib.hid h3; have x7 := (PA.out.p.grown h2 PA.out.ne1).cell 2; have f7 := (PA.out.p.grown h2 PA.out.ne1).frozen 2; simp at x7; clear h1 h2 h3 h4)
            all_goals go_wp2
            all_goals refine bodyPost_end (results_none rfl _ _ _) rfl ?_
            all_goals exact .inr ⟨by rw [DD.out], ⟨_, rfl⟩, .inr (.inl ⟨by rw [DD.out], HKK.out, _, by rw [DD.out]; exact P2.out.flow (f := ⟨a.day, a.cur, tv⟩) LW.out.drew G7.out (fun y e => by simp only [Value.ownBlock, Option.some.injEq] at e; subst e; exact L7.out) O7.out⟩)⟩
          · rw [hk] at k1
            have HKK := Lib.hid hk
            have d8 := AW2.out.cell
            have y1 := P2.out.p.cell 1
            simp at y1
            obtain ⟨ci, hci⟩ : ∃ n : Nat, a.cell = (n : Int) := ⟨a.cell.toNat, by omega⟩
            rw [hci] at d8 hc1
            have HCI := Lib.hid hci
            have cl : ci < C.length := by omega
            obtain ⟨cur, q1, q2, q3⟩ := P2.out.c
            obtain ⟨yy, x7⟩ := q1.some1 ci (by omega)
            have f7 := q1.frozen ci
            clear hk hci hc0 q1 q2 q3
            go_wp2_with fail
            go_region_law (fail)
            all_goals go_wp2
            all_goals refine bodyPost_end (results_none rfl _ _ _) rfl ?_
            all_goals exact .inr ⟨by rw [DD.out], ⟨_, rfl⟩, .inr (.inr ⟨by rw [DD.out], by rw [HKK.out]; decide, by rw [DD.out, HCI.out]; exact P2.out.drew.cell ci cl tv TI.out⟩)⟩
      · have DD := Lib.hid (show doneR (Rws rs) C a = (0, false, tf) from by rw [D.out, if_pos (show ¬ (tv, tf).2 = 0 from zt)])
        go_wp2_with fail
        go_region_law (first
          | (go_simp; go_at_call 27; refine (KV.out _ (Below.refl _ _).drew).mono ?_; rintro e w2 ⟨he, b2⟩; have B2 := Lib.hid (show Below w1.heap.size w1 w2 from (Below.refl _ _).drew.trans b2); have u1 := (B2.out.cell (p := ⟨p, q + 2, none⟩) hp1).trans c2; have he' := he.ok rfl; subst he'; clear b2 he)
          | (go_simp; go_at_call 66; refine (KT.out _ B2.out _ HX.out).mono ?_; rintro e w3 ⟨he, hw3⟩; have hw3' := hw3.symm; subst hw3'; rw [HT.out] at he; rcases he.dead zt with ⟨rfl, hF⟩ | he2; rotate_left; focus (subst he2; unfold pnc; (try go_wp2); exact ⟨rfl, .inl ⟨by rw [DD.out]; exact zt, by rw [DD.out]; rfl, P1.out.later B2.out⟩⟩)))
        all_goals exact hF.out.elim
    · have D := Lib.hid (done_turn PF.out (show turnR (Rws rs) C a.ss (a.e.val (Rws rs) C) = (vv, ff) by rw [HV.out]; exact turnR_fault _ _ z))
      have DD := Lib.hid (show doneR (Rws rs) C a = (0, false, ff) from by rw [D.out, if_pos (show ¬ (vv, ff).2 = 0 from z)])
      go_wp2_with fail
      go_region_law (first
          | (go_simp; go_at_call 27; refine (KV.out _ (Below.refl _ _).drew).mono ?_; rintro e w2 ⟨he, b2⟩; have B2 := Lib.hid (show Below w1.heap.size w1 w2 from (Below.refl _ _).drew.trans b2); have u1 := (B2.out.cell (p := ⟨p, q + 2, none⟩) hp1).trans c2; clear b2; rcases he.dead z with ⟨rfl, hF⟩ | he2; rotate_left; focus (subst he2; unfold pnc; (try go_wp2); exact ⟨rfl, .inl ⟨by rw [DD.out]; exact z, by rw [DD.out]; rfl, P1.out.later B2.out⟩⟩))
          | (go_simp; go_at_call 66; refine (KT.out _ B2.out 0 zero_inR).mono ?_; rintro e w3 ⟨he3, hw3⟩; have hw3' := hw3.symm; subst hw3'; rcases he3 with ⟨_, rfl⟩ | he4; rotate_left; focus (exact hF.out.elim)))
      all_goals exact hF.out.elim
end Go.Proofs.Ytjlnbhmiahegmaa
