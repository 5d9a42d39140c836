import Derived.Test.YtpfjnnkjoabgbaaGreatDoorXBI
namespace Go.Proofs.YtpfjnnkjoabgbaaGreatDoor
open Go.RowKit
set_option linter.unusedVariables false
set_option linter.unusedSimpArgs false
/-- The first one let go: its cell is cleared, the list begins one further. -/
theorem drop_row {w : World} {g o cap : Nat} {l : List (List Cl)} {vs : List Value} (h : PaV w (.slice (some ⟨g, o, none⟩) l.length cap) l vs) (hl : 0 < l.length) {o' : Nat} (ho : (cap = 1 ∧ o' = o) ∨ (cap ≠ 1 ∧ o' = o + 1)) : PaV (w.setCell ⟨g, o, none⟩ (.slice none 0 0)) (.slice (some ⟨g, o', none⟩) (l.length - 1) (cap - 1)) (l.drop 1) (vs.drop 1) := by
  rcases h.form with ⟨e, _⟩ | ⟨g', o2, cap', cur, e, hg, f1, f2, f3, f4⟩
  · cases e
  · injection e with e q1 q2
    injection e with e
    injection e with e e2
    subst e e2 q2
    have bk : BkP w g cur 47 := hg
    have b1 := bk.set2 o (.slice none 0 0) (by omega)
    have kp : Kp w (w.setCell ⟨g, o, none⟩ (.slice none 0 0)) (fun k => k = g) := ⟨rfl, rfl, rfl, by rw [set_size]; exact Nat.le_refl _, fun k hk hn => bk_block hn⟩
    have nt : ∀ (y : Nat) (c : Array Value) (fr : Nat × Nat), y = g → w.heap[y]? ≠ some (.cells c 73 fr) := by
      rintro y c fr rfl z
      rw [hg] at z
      injection z with z
      injection z with z1 z2
      exact absurd z2 (by decide)
    have gd : ∀ {α : Type} (m : List α) (d : α) (i : Nat), (m.drop 1).getD i d = m.getD (i + 1) d := by
      intro α m d i
      simp [List.getD, Nat.add_comm]
    refine ⟨by simp [h.len], ?_, fun u hu => h.one u (List.mem_of_mem_drop hu), .inr ⟨g, o', cap - 1, _, by simp, b1, ?_, ?_, by omega, ?_⟩⟩
    · intro i hi
      rw [gd, gd]
      have hi' : i + 1 < l.length := by simp at hi; omega
      exact (h.rows (i + 1) hi').keep kp nt
    · simp; rcases ho with ⟨a, b⟩ | ⟨a, b⟩ <;> omega
    · simp; omega
    · intro i hi
      have hi' : i + 1 < l.length := by simp at hi; omega
      rw [gd, ← f4 (i + 1) hi']
      rcases ho with ⟨a, b⟩ | ⟨a, b⟩
      · omega
      · subst b
        simp only [Array.set!_eq_setIfInBounds]
        rw [Array.getElem?_setIfInBounds_ne (by omega)]
        congr 1
        omega
theorem Kp.set {w W : World} {S : Nat → Prop} (h : Kp w W S) {b : Nat} (hb : S b ∨ w.heap.size ≤ b) (j : Nat) (x : Value) : Kp w (W.setCell ⟨b, j, none⟩ x) S := ⟨h.os, h.tape, h.out, by rw [set_size]; exact h.size, fun k hk hn => (bk_block (fun z => by
  subst z
  rcases hb with q | q
  · exact hn q
  · omega)).trans (h.blk k hk hn)⟩
theorem PaV.setM {W : World} {v : Value} {l : List (List Cl)} {vs : List Value} (h : PaV W v l vs) {mb : Nat} {arr : Array Value} (hb : BkP W mb arr 75) (j : Nat) (x : Value) : PaV (W.setCell ⟨mb, j, none⟩ x) v l vs := by
  have kp : Kp W (W.setCell ⟨mb, j, none⟩ x) (fun k => k = mb) := ⟨rfl, rfl, rfl, by rw [set_size]; exact Nat.le_refl _, fun k hk hn => bk_block hn⟩
  refine h.keep kp ?_ ?_
  · rintro y c fr rfl z
    have e := hb.symm.trans z
    injection e with e
    injection e with z1 z2
    exact absurd z2 (by decide)
  · rintro g hg rfl
    obtain ⟨c, e⟩ := h.lt g hg
    exact bk_ne hb e (by decide) rfl
theorem cell_ne {w : World} {a : Addr} {v : Value} (h : w.cell? a = some v) : ∃ u, w.cell? a = some u := ⟨v, h⟩
/-- What close leaves. -/
structure ClE (w : World) (mb : Nat) (p : Pg) (n : Nds) (td st : Int) (cev pav : Value) (past : List (List Cl)) (row : List Cl) (f : Int) (w' : World) : Prop where
  new : ∃ pav' vs', BkP w' mb (mArr p n (td + 1) st cev pav' f (if f = 0 then 0 else td)) 75 ∧ PaV w' pav' (pastOn n.back past row) vs' ∧ (∀ g, pav'.ownBlock = some g → pav.ownBlock = some g ∨ w.heap.size ≤ g)
  kp : Kp w w' (fun k => k = mb ∨ pav.ownBlock = some k)
theorem fin0 {w W : World} {mb : Nat} {p : Pg} {n : Nds} {td st : Int} {cev pav pv : Value} {past l : List (List Cl)} {row : List Cl} {vs : List Value} (hb : BkP W mb (mArr p n td st cev pv 0 0) 75) (hP : PaV W pv l vs) (e : pastOn n.back past row = l) (hK : Kp w W (fun k => k = mb ∨ pav.ownBlock = some k)) (hg : ∀ g, pv.ownBlock = some g → pav.ownBlock = some g ∨ w.heap.size ≤ g) : ClE w mb p n td st cev pav past row 0 (W.setCell ⟨mb, 11, none⟩ (.int .i64 (td + 1))) := by
  have := hb.set2 11 (.int .i64 (td + 1)) (by simp [mArr])
  refine ⟨⟨pv, vs, by simpa [mArr] using this, ?_, hg⟩, hK.set (.inl (.inl rfl)) _ _⟩
  rw [e]
  exact hP.setM hb _ _
theorem fin1 {w W : World} {mb : Nat} {p : Pg} {n : Nds} {td st f : Int} (hf : f ≠ 0) {cev pav pv : Value} {past l : List (List Cl)} {row : List Cl} {vs : List Value} (hb : BkP W mb (mArr p n td st cev pv 0 0) 75) (hP : PaV W pv l vs) (e : pastOn n.back past row = l) (hK : Kp w W (fun k => k = mb ∨ pav.ownBlock = some k)) (hg : ∀ g, pv.ownBlock = some g → pav.ownBlock = some g ∨ w.heap.size ≤ g) : ClE w mb p n td st cev pav past row f (((W.setCell ⟨mb, 15, none⟩ (.int .i64 f)).setCell ⟨mb, 16, none⟩ (.int .i64 td)).setCell ⟨mb, 11, none⟩ (.int .i64 (td + 1))) := by
  have b1 := hb.set2 15 (.int .i64 f) (by simp [mArr])
  have b2 := b1.set2 16 (.int .i64 td) (by simp [mArr])
  have b3 := b2.set2 11 (.int .i64 (td + 1)) (by simp [mArr])
  refine ⟨⟨pv, vs, ?_, ?_, hg⟩, ((hK.set (.inl (.inl rfl)) _ _).set (.inl (.inl rfl)) _ _).set (.inl (.inl rfl)) _ _⟩
  · rw [if_neg hf]
    simpa [mArr] using b3
  · rw [e]
    exact ((hP.setM hb _ _).setM b1 _ _).setM b2 _ _
set_option maxRecDepth 100000 in
set_option maxHeartbeats 3200000 in
theorem close_any {w : World} {mb : Nat} {p : Pg} {n : Nds} {td st : Int} {cev pav : Value} (hb : BkP w mb (mArr p n td st cev pav 0 0) 75) {past : List (List Cl)} {vs : List Value} (hp : PaV w pav past vs) (hl : past.length ≤ 100000) (ht : 0 ≤ td ∧ td ≤ 100000) {ra : Option Addr} {rn rc : Nat} {row : List Cl} (hr : RwV w (.slice ra rn rc) row) (f : Int) : Calls Tryz.prog 30 #[.pointer (some ⟨mb, 0, none⟩), .slice ra rn rc, .int .i64 f] w fun e w' => e = .returned (.tuple #[]) ∧ ClE w mb p n td st cev pav past row f w' := by
  obtain ⟨g, o, cap, W1, ha, hP, hK, hg, hgl⟩ := app_row hp hl hr
  have hmb : BkP W1 mb (mArr p n td st cev pav 0 0) 75 := (hK.blk mb hb.lt (fun z => by
    obtain ⟨c, e⟩ := hp.lt mb z
    exact bk_ne hb e (by decide) rfl)).trans hb
  obtain ⟨_, _, _, _, a10, a11, a14, a15, a16⟩ := mach_over (s := ⟨td, st, [], [], 0, 0⟩) hb
  simp only at a10 a11 a14 a15 a16
  have hpf : ∃ pa pn pcap, pav = .slice pa pn pcap := by
    rcases hp.form with ⟨e, _⟩ | ⟨g, o, cap, cur, e, _⟩
    · exact ⟨_, _, _, e⟩
    · exact ⟨_, _, _, e⟩
  obtain ⟨pa, pn, pcap, rfl⟩ := hpf
  have f14 := hmb.frozen 14
  have z14 : W1.cell? ⟨mb, 14, none⟩ = some (.slice pa pn pcap) := by rw [hmb.cell]; rfl
  go_enter Tryz.func30, Tryz.ntmps30
  go_wp2_with (at_builtin; refine wp_app_run rfl _ _ 27 rfl _ _ _ W1 rfl rfl ha ?_)
  obtain ⟨W2, hW2⟩ : ∃ W, W1.setCell ⟨mb, 14, none⟩ (.slice (some ⟨g, o, none⟩) (past.length + 1) cap) = W := ⟨_, rfl⟩
  rw [hW2]
  have hb2 : BkP W2 mb (mArr p n td st cev (.slice (some ⟨g, o, none⟩) (past.length + 1) cap) 0 0) 75 := by
    rw [← hW2]
    have := hmb.set2 14 (.slice (some ⟨g, o, none⟩) (past.length + 1) cap) (by simp [mArr])
    simpa [mArr] using this
  have hP2 : PaV W2 (.slice (some ⟨g, o, none⟩) (past.length + 1) cap) (past ++ [row]) (vs ++ [.slice ra rn rc]) := by rw [← hW2]; exact hP.setM hmb _ _
  have hK2 : Kp w W2 (fun k => k = mb ∨ Value.ownBlock (.slice pa pn pcap) = some k) := by rw [← hW2]; exact (hK.mono (fun k z => .inr z)).set (.inl (.inl rfl)) _ _
  clear hW2 hmb f14 z14 a10 a11 a14 a15 a16 hP hK ha hp hb hr
  have z10 : W2.cell? ⟨mb, 10, none⟩ = some (.int .i64 n.back) := by rw [hb2.cell]; rfl
  have z14 : W2.cell? ⟨mb, 14, none⟩ = some (.slice (some ⟨g, o, none⟩) (past.length + 1) cap) := by rw [hb2.cell]; rfl
  go_quiet (fail)
  have hb3 : BkP (W2.drewN nq) mb (mArr p n td st cev (.slice (some ⟨g, o, none⟩) (past.length + 1) cap) 0 0) 75 := hb2
  have hP3 := hP2.lat (drewN_below W2 nq)
  have hK3 : Kp w (W2.drewN nq) (fun k => k = mb ∨ Value.ownBlock (.slice pa pn pcap) = some k) := ⟨hK2.os, hK2.tape, hK2.out, hK2.size, hK2.blk⟩
  generalize W2.drewN nq = W3 at *
  clear hb2 hP2 hK2 z10 z14 hgl
  have z11 : W3.cell? ⟨mb, 11, none⟩ = some (.int .i64 td) := by rw [hb3.cell]; rfl
  have z14 : W3.cell? ⟨mb, 14, none⟩ = some (.slice (some ⟨g, o, none⟩) (past.length + 1) cap) := by rw [hb3.cell]; rfl
  have z15 : W3.cell? ⟨mb, 15, none⟩ = some (.int .i64 0) := by rw [hb3.cell]; rfl
  have z16 : W3.cell? ⟨mb, 16, none⟩ = some (.int .i64 0) := by rw [hb3.cell]; rfl
  have f11 := hb3.frozen 11
  have f14 := hb3.frozen 14
  have f15 := hb3.frozen 15
  have f16 := hb3.frozen 16
  have len1 : (past ++ [row]).length = past.length + 1 := by simp
  rw [← len1] at hP3
  obtain ⟨g', o', cap', cur, he, hcur, k1, k2, k3, k4⟩ : ∃ g' o' cap' cur, Value.slice (some ⟨g, o, none⟩) (past ++ [row]).length cap = .slice (some ⟨g', o', none⟩) (past ++ [row]).length cap' ∧ W3.heap[g']? = some (.cells cur 47 (0, 0)) ∧ o' + cap' ≤ cur.size ∧ (past ++ [row]).length ≤ cap' ∧ cap' ≤ maxLen ∧ ∀ i, i < (past ++ [row]).length → cur[o' + i]? = some ((vs ++ [Value.slice ra rn rc]).getD i default) := by
    rcases hP3.form with ⟨e, _⟩ | q
    · cases e
    · exact q
  injection he with he1 he2 he3
  injection he1 with he1
  injection he1 with he4 he5
  subst he3 he4 he5
  have bg : BkP W3 g cur 47 := hcur
  have zg : W3.cell? ⟨g, o, none⟩ = some ((vs ++ [Value.slice ra rn rc]).getD 0 default) := by
    rw [bg.cell]
    have := k4 0 (by rw [len1]; omega)
    simpa using this
  have fg := bg.frozen o
  have ne1 : ¬ mb = g := bk_ne hb3 bg (by decide)
  have ne2 : ¬ g = mb := fun z => ne1 z.symm
  have ks : IntKind.i64.wrap (td + 1) = td + 1 := by simp [IntKind.wrap, IntKind.bits, IntKind.signed]; omega
  have l1 : (0 : Int) < ((past.length : Int) + 1) := by omega
  have own : ∀ x, Value.ownBlock (.slice (some ⟨g, x, none⟩) 0 0) = some g := fun _ => rfl
  have HB := Lib.hid hb3
  have HP := Lib.hid hP3
  have HK := Lib.hid hK3
  have HG := Lib.hid hg
  have BG := Lib.hid bg
  generalize (vs ++ [Value.slice ra rn rc]).getD 0 default = old at *
  clear hb3 hP3 hK3 hg hcur k4 bg he2
  by_cases hbk : n.back < ((past.length + 1 : Nat) : Int)
  · have eP : pastOn n.back past row = (past ++ [row]).drop 1 := by unfold pastOn; rw [if_pos hbk]
    have d1 : decide (n.back < (past.length : Int) + 1) = true := by simp; omega
    have hbk2 : n.back < (past.length : Int) + 1 := by omega
    have D := Lib.hid (p := ∀ o', ((cap = 1 ∧ o' = o) ∨ (cap ≠ 1 ∧ o' = o + 1)) → BkP ((W3.setCell ⟨g, o, none⟩ (.slice none 0 0)).setCell ⟨mb, 14, none⟩ (.slice (some ⟨g, o', none⟩) past.length (cap - 1))) mb (mArr p n td st cev (.slice (some ⟨g, o', none⟩) past.length (cap - 1)) 0 0) 75 ∧ PaV ((W3.setCell ⟨g, o, none⟩ (.slice none 0 0)).setCell ⟨mb, 14, none⟩ (.slice (some ⟨g, o', none⟩) past.length (cap - 1))) (.slice (some ⟨g, o', none⟩) past.length (cap - 1)) ((past ++ [row]).drop 1) ((vs ++ [Value.slice ra rn rc]).drop 1) ∧ Kp w ((W3.setCell ⟨g, o, none⟩ (.slice none 0 0)).setCell ⟨mb, 14, none⟩ (.slice (some ⟨g, o', none⟩) past.length (cap - 1))) (fun k => k = mb ∨ Value.ownBlock (.slice pa pn pcap) = some k) ∧ ∀ g2, Value.ownBlock (.slice (some ⟨g, o', none⟩) past.length (cap - 1)) = some g2 → Value.ownBlock (.slice pa pn pcap) = some g2 ∨ w.heap.size ≤ g2) (fun o' ho => by
      have b0 := HB.out.other g o (.slice none 0 0) ne2
      have b1 := b0.set2 14 (.slice (some ⟨g, o', none⟩) past.length (cap - 1)) (by simp [mArr])
      have q := drop_row HP.out (by rw [len1]; omega) ho
      rw [len1, Nat.add_sub_cancel] at q
      refine ⟨by simpa [mArr] using b1, q.setM b0 _ _, (HK.out.set ?_ _ _).set (.inl (.inl rfl)) _ _, ?_⟩
      · rcases HG.out with z | z
        · exact .inl (.inr z)
        · exact .inr z
      · intro g2 h2
        simp only [Value.ownBlock, Option.some.injEq] at h2
        subst h2
        exact HG.out)
    clear HP HB
    by_cases hc1 : cap = 1
    · subst hc1
      obtain ⟨d2, d3, d4, d5⟩ := D.out o (.inl ⟨rfl, rfl⟩)
      have D2 := Lib.hid d2
      have D3 := Lib.hid d3
      have D4 := Lib.hid d4
      have D5 := Lib.hid d5
      clear D d2 d3 d4 d5
      by_cases hf : f = 0
      · subst hf
        go_wp2
        go_end0
        exact ⟨rfl, fin0 D2.out D3.out eP D4.out D5.out⟩
      · have z : (f != 0) = true := by simpa using hf
        go_wp2
        go_end0
        exact ⟨rfl, fin1 hf D2.out D3.out eP D4.out D5.out⟩
    · obtain ⟨d2, d3, d4, d5⟩ := D.out (o + 1) (.inr ⟨hc1, rfl⟩)
      have D2 := Lib.hid d2
      have D3 := Lib.hid d3
      have D4 := Lib.hid d4
      have D5 := Lib.hid d5
      clear D d2 d3 d4 d5
      by_cases hf : f = 0
      · subst hf
        go_wp2
        go_end0
        exact ⟨rfl, fin0 D2.out D3.out eP D4.out D5.out⟩
      · have z : (f != 0) = true := by simpa using hf
        go_wp2
        go_end0
        exact ⟨rfl, fin1 hf D2.out D3.out eP D4.out D5.out⟩
  · have eP : pastOn n.back past row = past ++ [row] := by unfold pastOn; rw [if_neg hbk]
    have d1 : decide (n.back < (past.length : Int) + 1) = false := by simp; omega
    have hbk2 : (n.back < (past.length : Int) + 1) = False := by simp; omega
    have G2 := Lib.hid (p := ∀ g2, Value.ownBlock (.slice (some ⟨g, o, none⟩) (past ++ [row]).length cap) = some g2 → Value.ownBlock (.slice pa pn pcap) = some g2 ∨ w.heap.size ≤ g2) (fun g2 h2 => by
      simp only [Value.ownBlock, Option.some.injEq] at h2
      subst h2
      exact HG.out)
    rw [len1] at G2 HP
    by_cases hf : f = 0
    · subst hf
      go_wp2
      go_end0
      exact ⟨rfl, fin0 HB.out HP.out eP HK.out G2.out⟩
    · have z : (f != 0) = true := by simpa using hf
      go_wp2
      go_end0
      exact ⟨rfl, fin1 hf HB.out HP.out eP HK.out G2.out⟩
end Go.Proofs.YtpfjnnkjoabgbaaGreatDoor

namespace Go.Proofs.YtpfjnnkjoabgbaaGreatDoor
open Go.RowKit
set_option linter.unusedVariables false
set_option linter.unusedSimpArgs false
def dayK (w w1 : World) (mb : Nat) (p : Pg) (n : Nds) (s : Ms) (cev pav codev : Value) (rb gr sb : Nat) : Kx := ⟨w1, w.heap.size, rb, mb, p, n, s.today, cev, pav, codev, .slice (some ⟨gr, 0, none⟩) p.names.length p.names.length, fun k => k < w1.heap.size ∧ k ≠ rb ∧ k ≠ mb ∧ cev.ownBlock ≠ some k ∧ k ≠ sb⟩
theorem i64_inRM {n : Int} (h : i64 n) : inR n := wf_inR h
section
variable {D : Nat → Prop} {w w1 : World} {mb : Nat} {p : Pg} {n : Nds} {cev pav : Value} {s : Ms} {row : List Cl} {rb gr sb cap : Nat} {codev : Value}
/-- What a day's begin gives. -/
theorem day_ro (m : McV D w mb p n cev pav s) (no : ¬ s.over p.hor) (b : Below w.heap.size w w1) (g1 : w.heap.size ≤ rb) (g2 : w.heap.size ≤ gr) (g3 : w.heap.size ≤ sb) (hb : BkP w1 rb #[.pointer (some ⟨mb, 0, none⟩), codev, .int .i64 0, .bool false, .slice (some ⟨gr, 0, none⟩) p.names.length p.names.length, .slice (some ⟨sb, 0, none⟩) 0 cap, .slice none 0 0, .slice none 0 0] 83) (hs : OwZ w1 w.heap.size (.slice (some ⟨sb, 0, none⟩) 0 cap) []) : RoE (dayK w w1 mb p n s cev pav codev rb gr sb) w1 s.steps s.begun := by
  have m1 := m.lat b
  have f0 : s.fault = 0 := Classical.byContradiction fun z => no (.inl z)
  have d0 := m.ok.f0 f0
  have bx := m1.box
  rw [f0, d0] at bx
  have lt : ∀ {x : Nat} {o : Obj}, w.heap[x]? = some o → x < w.heap.size := fun e => (Array.getElem?_eq_some_iff.1 e).1
  have cB : ∀ g, cev.ownBlock = some g → g < w.heap.size := fun g hg => by obtain ⟨c, fr, e⟩ := m.ce.lt g hg; exact lt e
  refine ⟨.slice (some ⟨sb, 0, none⟩) 0 cap, .slice none 0 0, .slice none 0 0, rfl, rfl, rfl, Nat.le_refl _, fun _ _ => rfl, by simpa [rArr, Ms.begun, dayK] using hb, g1, bx, lt m.box, hs, OwZ.nil _ _, World.ownsRow_nil _ _ _ _, .inr (by simp [Value.ownBlock]), m1.ce, cB, by simp [Ms.begun], by simp [Ms.begun], m.ok.ci, fun k hk => hk.1, fun z => z.2.1 rfl, fun z => z.2.2.1 rfl, fun g hg z => z.2.2.2.1 hg, ?_, ?_, ?_⟩
  · intro g hg z
    simp only [Value.ownBlock, Option.some.injEq] at hg
    exact z.2.2.2.2 hg.symm
  · intro g hg; cases hg
  · intro g hg; cases hg
/-- All that the program's lists lie in stays. -/
theorem day_pv (m : McV D w mb p n cev pav s) (b : Below w.heap.size w w1) (g1 : w.heap.size ≤ rb) (g3 : w.heap.size ≤ sb) {V : World} (on : (dayK w w1 mb p n s cev pav codev rb gr sb).On V) : PV V p := by
  refine m.pv V (fun k hk => ?_)
  have l := m.dl k hk
  have := b.size
  refine (on k ⟨by omega, by omega, fun z => m.dm (by rw [← z]; exact hk), fun z => m.dc k z hk, by omega⟩).trans (b.block k l)
theorem day_ke (m : McV D w mb p n cev pav s) (b : Below w.heap.size w w1) (g1 : w.heap.size ≤ rb) (g2 : w.heap.size ≤ gr) (g3 : w.heap.size ≤ sb) {arr : Array Value} (hb : BkP w1 rb arr 83) (hs : OwZ w1 w.heap.size (.slice (some ⟨sb, 0, none⟩) 0 cap) []) (hr : Rc w1 gr (fitR p.names.length row)) (hi : ∀ c ∈ row, inR c.v) (hn : p.names.length ≤ 64) : KE (dayK w w1 mb p n s cev pav codev rb gr sb) (p.env s row) := by
  have m1 := m.lat b
  obtain ⟨vs, pa⟩ := m1.pa
  obtain ⟨sbc, sbk⟩ : ∃ c, w1.heap[sb]? = some (.cells c 3 (0, 0)) := by
    rcases hs.2 with ⟨e, _⟩ | ⟨g', cap', cur, e, _, e3, _⟩
    · cases e
    · injection e with e
      injection e with e
      injection e with e
      subst e
      exact ⟨cur, e3⟩
  -- a block of another type than those that turn stays
  have stay : ∀ {V : World}, (dayK w w1 mb p n s cev pav codev rb gr sb).On V → ∀ {y : Nat} {cur : Array Value} {t : TypeId} {fr : Nat × Nat}, w1.heap[y]? = some (.cells cur t fr) → t ≠ 83 → t ≠ 75 → t ≠ 3 → V.heap[y]? = some (.cells cur t fr) := by
    intro V on y cur t fr e t1 t2 t3
    have tt : ∀ {z : Nat} {c : Array Value} {u : TypeId} {f2 : Nat × Nat}, w1.heap[z]? = some (.cells c u f2) → y = z → t = u := by
      rintro z c u f2 e2 rfl
      have := e.symm.trans e2
      injection this with this
      injection this
    refine (on y ⟨(Array.getElem?_eq_some_iff.1 e).1, fun z => t1 (tt hb z), fun z => t2 (tt m1.box z), fun z => ?_, fun z => t3 (tt sbk z)⟩).trans e
    obtain ⟨c, f2, e2⟩ := m1.ce.lt y z
    exact t3 (tt e2 rfl)
  have pv0 := m1.prog
  refine ⟨rfl, rfl, ?_, rfl, ?_, ?_, ?_, ?_, fitR_in hi, fun l hl c hc => (m.ok.pr l hl).2 c hc⟩
  · intro V on i h
    obtain ⟨x, o, e, _, c⟩ := (day_pv m b g1 g3 on).pool.2.2.2.2.oneP (Nat.lt_of_le_of_lt (Nat.zero_le _) h)
    have := c i h 0 (by omega)
    simp only [Nat.mul_one, Nat.add_zero, List.getD_cons_zero] at this
    exact ⟨x, o, e, this⟩
  · intro V on i h
    obtain ⟨x, o, e, _, c⟩ := (day_pv m b g1 g3 on).curs.2.2.2.2.oneP (Nat.lt_of_le_of_lt (Nat.zero_le _) h)
    have := c i h 0 (by omega)
    simp only [Nat.mul_one, Nat.add_zero, List.getD_cons_zero] at this
    exact ⟨x, o, e, this⟩
  · intro V on i h
    have h' : i < p.names.length := by simpa [Pg.env, fitR] using h
    have bk : BkP V gr (clv (fitR p.names.length row)).toArray 73 := stay on hr.block (by decide) (by decide) (by decide)
    have rr : Rc V gr (fitR p.names.length row) := rc_block bk (by rw [fitR_len]; omega)
    obtain ⟨q0, q1⟩ := rr.fc i h
    refine ⟨gr, 0, p.names.length, ?_, by rw [Nat.zero_add]; exact q0, by rw [Nat.zero_add]; exact q1⟩
    show Value.slice (some ⟨gr, 0, none⟩) p.names.length p.names.length = .slice (some ⟨gr, 0, none⟩) (fitR p.names.length row).length p.names.length
    rw [fitR_len]
  · intro V on d hd i h
    have hd' : d < s.past.length := hd
    rcases pa.form with ⟨_, e⟩ | ⟨g, o, cp, cur, e, hg, f1, f2, f3, f4⟩
    · rw [e] at hd'; simp at hd'
    · obtain ⟨a, z, ev, q⟩ := pa.rows d hd'
      have h2 : i < (s.past.getD d []).length := h
      rcases q with q | ⟨y, u, c2, fr, rfl, hy, cc⟩
      · rw [q] at h2; simp at h2
      · have vg : V.heap[g]? = _ := stay on hg (by decide) (by decide) (by decide)
        have vy : V.heap[y]? = _ := stay on hy (by decide) (by decide) (by decide)
        obtain ⟨c0, c1⟩ := (cc i h2).blk (w' := V) (vy.trans hy.symm)
        refine ⟨g, o, cp, y, u, z, e, ?_, c0, c1⟩
        have : V.cell? ⟨g, o + d, none⟩ = cur[o + d]? := by simp [World.cell?, vg]
        rw [this, f4 d hd', ev]
        rfl
  · intro x hx
    exact i64_inRM (pv0.pool.2.2.2.1 x hx)
/-- A day's code in memory. -/
theorem day_cd (m : McV D w mb p n cev pav s) (b : Below w.heap.size w w1) (g1 : w.heap.size ≤ rb) (g3 : w.heap.size ≤ sb) (hc : CdE p.days s.today codev) (hn : dayCode p.days s.today ≠ []) : CdV (dayK w w1 mb p n s cev pav codev rb gr sb) (dayCode p.days s.today) := by
  rcases hc with ⟨q, _⟩ | ⟨i, hi, hd, q, rfl⟩
  · exact absurd q hn
  have l0 : 0 < (p.days.getD i default).code.length := by
    rw [← q]
    exact List.length_pos_iff.2 hn
  have on1 : (dayK w w1 mb p n s cev pav (.slice (p.days.getD i default).ca (p.days.getD i default).code.length (p.days.getD i default).cc) rb gr sb).On w1 := fun _ _ => rfl
  obtain ⟨x, o, e, _, _⟩ := ((day_pv m b g1 g3 on1).days.2.2.2.1 _ (sg_mem hi)).2.2.2.2.2.oneP l0
  refine ⟨x, o, (p.days.getD i default).cc, by rw [q, ← e]; rfl, fun V on k hk => ?_⟩
  obtain ⟨x', o', e', _, c⟩ := ((day_pv m b g1 g3 on).days.2.2.2.1 _ (sg_mem hi)).2.2.2.2.2.oneP l0
  rw [e] at e'
  injection e' with e'
  injection e' with e1 e2
  subst e1 e2
  rw [q] at hk ⊢
  have c0 := c k hk 0 (by omega)
  have c1 := c k hk 1 (by omega)
  have c2 := c k hk 2 (by omega)
  simp only [icell, Nat.add_zero, List.getD_cons_zero, List.getD_cons_succ] at c0 c1 c2
  exact ⟨c0, c1, c2⟩
end
end Go.Proofs.YtpfjnnkjoabgbaaGreatDoor

namespace Go.Proofs.YtpfjnnkjoabgbaaGreatDoor
open Go.RowKit
set_option linter.unusedVariables false
set_option linter.unusedSimpArgs false
/-- What a day leaves. -/
structure DyE (D : Nat → Prop) (w : World) (mb : Nat) (p : Pg) (n : Nds) (cev pav : Value) (s : Ms) (row : List Cl) (e : Ending) (w' : World) : Prop where
  kp : Kp w w' (turnS mb cev pav)
  new : ∃ flv pav', e = .returned (.tuple #[flv, .int .i64 (dayGo p s row).1, .int .i64 0]) ∧ McV D w' mb p n cev pav' (dayMs p n.back s row) ∧ OwF w' w.heap.size flv (dayFl p s row) ∧ (∀ g, pav'.ownBlock = some g → pav.ownBlock = some g ∨ w.heap.size ≤ g)
theorem ownsRow_base {w : World} {B C : Nat} {t : TypeId} {k : Nat} {v : Value} {n : Nat} {xs : List Value} (h : w.ownsRow B t k v n xs) (hc : C ≤ B) : w.ownsRow C t k v n xs := by
  refine ⟨h.1, ?_⟩
  rcases h.2 with q | ⟨g, cap, cur, rfl, hB, r⟩
  · exact .inl q
  · exact .inr ⟨g, cap, cur, rfl, by omega, r⟩
section
variable {D : Nat → Prop} {w w1 w2 w3 : World} {mb : Nat} {p : Pg} {n : Nds} {cev pav : Value} {s : Ms} {row : List Cl} {rb gr sb cap : Nat} {codev : Value}
/-- The rows that have been, behind the day's code. -/
theorem day_pa (m : McV D w mb p n cev pav s) (b : Below w.heap.size w w1) (g1 : w.heap.size ≤ rb) (g3 : w.heap.size ≤ sb) {steps : Int} {r : Rn} (hr : RoE (dayK w w1 mb p n s cev pav codev rb gr sb) w2 steps r) {vs : List Value} (pa : PaV w1 pav s.past vs) (hs : OwZ w1 w.heap.size (.slice (some ⟨sb, 0, none⟩) 0 cap) []) {arr : Array Value} (hb : BkP w1 rb arr 83) {rv : Value} {rl : List Cl} (rw0 : RwV w1 rv rl) : PaV w2 pav s.past vs ∧ RwV w2 rv rl ∧ Kp w1 w2 (fun k => k = rb ∨ k = mb ∨ cev.ownBlock = some k ∨ k = sb) := by
  obtain ⟨a1, a2, a3, h⟩ := hr
  have m1 := m.lat b
  obtain ⟨sbc, sbk⟩ : ∃ c, w1.heap[sb]? = some (.cells c 3 (0, 0)) := by
    rcases hs.2 with ⟨e, _⟩ | ⟨g', cap', cur, e, _, e3, _⟩
    · cases e
    · injection e with e
      injection e with e
      injection e with e
      subst e
      exact ⟨cur, e3⟩
  have kp : Kp w1 w2 (fun k => k = rb ∨ k = mb ∨ cev.ownBlock = some k ∨ k = sb) := ⟨h.os, h.tape, h.out, h.sz, fun k hk hn => h.fr k ⟨hk, fun z => hn (.inl z), fun z => hn (.inr (.inl z)), fun z => hn (.inr (.inr (.inl z))), fun z => hn (.inr (.inr (.inr z)))⟩⟩
  have ty : ∀ k, (k = rb ∨ k = mb ∨ cev.ownBlock = some k ∨ k = sb) → ∃ c t fr, w1.heap[k]? = some (.cells c t fr) ∧ (t = 83 ∨ t = 75 ∨ t = 3) := by
    rintro k (rfl | rfl | z | rfl)
    · exact ⟨_, _, _, hb, .inl rfl⟩
    · exact ⟨_, _, _, m1.box, .inr (.inl rfl)⟩
    · obtain ⟨c, f2, e2⟩ := m1.ce.lt k z; exact ⟨_, _, _, e2, .inr (.inr rfl)⟩
    · exact ⟨_, _, _, sbk, .inr (.inr rfl)⟩
  have nt : ∀ (y : Nat) (c : Array Value) (fr : Nat × Nat), (y = rb ∨ y = mb ∨ cev.ownBlock = some y ∨ y = sb) → w1.heap[y]? ≠ some (.cells c 73 fr) := by
    intro y c fr z e
    obtain ⟨c2, t, f2, e2, h2⟩ := ty y z
    have := e.symm.trans e2
    injection this with this
    injection this with q1 q2
    rcases h2 with h2 | h2 | h2 <;> (rw [h2] at q2; exact absurd q2 (by decide))
  have nt2 : ∀ g, pav.ownBlock = some g → ¬ (g = rb ∨ g = mb ∨ cev.ownBlock = some g ∨ g = sb) := by
    intro g hg z
    obtain ⟨c, e⟩ := pa.lt g hg
    obtain ⟨c2, t, f2, e2, h2⟩ := ty g z
    have := e.symm.trans e2
    injection this with this
    injection this with q1 q2
    rcases h2 with h2 | h2 | h2 <;> (rw [h2] at q2; exact absurd q2 (by decide))
  exact ⟨pa.keep kp nt nt2, rw0.keep kp nt, kp⟩
/-- The day's end. -/
theorem day_end (m : McV D w mb p n cev pav s) (no : ¬ s.over p.hor) (hb0 : 0 ≤ n.back) (hh : p.hor ≤ 3660) (hl : (dayCode p.days s.today).length ≤ 262144) (hi : ∀ c ∈ row, inR c.v) (b : Below w.heap.size w w1) (g1 : w.heap.size ≤ rb) (g3 : w.heap.size ≤ sb) (hr : RoE (dayK w w1 mb p n s cev pav codev rb gr sb) w2 (s.steps + ((dayGo p s row).2.1 : Int)) (dayGo p s row).2.2) (kp : Kp w1 w2 (fun k => k = rb ∨ k = mb ∨ cev.ownBlock = some k ∨ k = sb)) (hc : ClE w2 mb p n s.today (s.steps + ((dayGo p s row).2.1 : Int)) cev pav s.past (fitR p.names.length row) (dayGo p s row).1 w3) : ∃ flv, w3.cell? ⟨rb, 7, none⟩ = some flv ∧ DyE D w mb p n cev pav s row (.returned (.tuple #[flv, .int .i64 (dayGo p s row).1, .int .i64 0])) w3 := by
  obtain ⟨stv, slv, flv, h⟩ := hr
  obtain ⟨⟨pav', vs', bx, pa', hg⟩, kc⟩ := hc
  have f0 : s.fault = 0 := Classical.byContradiction fun z => no (.inl z)
  have d0 := m.ok.f0 f0
  have sz1 := b.size
  have lt : ∀ {W : World} {x : Nat} {o : Obj}, W.heap[x]? = some o → x < W.heap.size := fun e => (Array.getElem?_eq_some_iff.1 e).1
  obtain ⟨vs, pa0⟩ := m.pa
  have pt : ∀ g, pav.ownBlock = some g → g < w.heap.size ∧ ∃ c, w2.heap[g]? = some (.cells c 47 (0, 0)) := by
    intro g hgg
    obtain ⟨c, e⟩ := pa0.lt g hgg
    refine ⟨lt e, c, ?_⟩
    have e1 := (b.block g (lt e)).trans e
    refine (kp.blk g (lt e1) ?_).trans e1
    rintro (z | z | z | z)
    · have := lt e; omega
    · exact bk_ne (m.lat b).box e1 (by decide) z.symm
    · obtain ⟨c2, f2, e2⟩ := (m.lat b).ce.lt g z
      have := e1.symm.trans e2
      injection this with this
      injection this with q1 q2
      exact absurd q2 (by decide)
    · have := lt e; omega
  have keepT : ∀ {x : Nat} {cur : Array Value} {t : TypeId} {fr : Nat × Nat}, w2.heap[x]? = some (.cells cur t fr) → t ≠ 75 → t ≠ 47 → w3.heap[x]? = some (.cells cur t fr) := by
    intro x cur t fr e t1 t2
    have tt : ∀ {c : Array Value} {u : TypeId} {f2 : Nat × Nat}, w2.heap[x]? = some (.cells c u f2) → t = u := by
      intro c u f2 e2
      have := e.symm.trans e2
      injection this with this
      injection this
    refine (kc.blk x (lt e) ?_).trans e
    rintro (z | z)
    · subst z; exact t1 (tt h.mb)
    · obtain ⟨_, c, e2⟩ := pt x z
      exact t2 (tt e2)
  have rb3 := keepT h.rb (by decide) (by decide)
  have fl3 : OwF w3 w.heap.size flv (dayFl p s row) := by
    refine own_blkG h.fl (fun g hgg => ?_)
    rcases h.fl.2 with ⟨e, _⟩ | ⟨g', cap', cur, e, _, e3, _⟩
    · rw [e] at hgg; cases hgg
    · rw [e] at hgg
      simp only [Value.ownBlock, Option.some.injEq] at hgg
      subst hgg
      exact (keepT e3 (by decide) (by decide)).trans e3.symm
  refine ⟨flv, ?_, ⟨?_, flv, pav', rfl, ?_, fl3, ?_⟩⟩
  · have : BkP w3 rb _ _ := rb3
    rw [this.cell]
    rfl
  · refine ((Kp.below b (turnS mb cev pav)).trans kp ?_).trans kc ?_
    · rintro x hx (z | z | z | z)
      · omega
      · exact .inl z
      · exact .inr (.inl z)
      · omega
    · rintro x hx (z | z)
      · exact .inl z
      · exact .inr (.inr z)
  · have dkeep : ∀ k, D k → w3.heap[k]? = w.heap[k]? := by
      intro k hk
      have l := m.dl k hk
      have e1 := b.block k l
      have e2 := kp.blk k (by omega) (by
        rintro (z | z | z | z)
        · omega
        · exact m.dm (by rw [← z]; exact hk)
        · exact m.dc k z hk
        · omega)
      have e3 := kc.blk k (by have := kp.size; omega) (by
        rintro (z | z)
        · exact m.dm (by rw [← z]; exact hk)
        · exact m.dp k z hk)
      exact e3.trans (e2.trans e1)
    have ok := dayMs_ok (row := row) m.ok hb0 hh no hi hl h.r3
    refine ⟨?_, fun k hk => ?_, fun V a => m.pv V (fun k hk => (a k hk).trans (dkeep k hk)), ?_, ⟨vs', ?_⟩, m.dm, m.dc, fun g hgg z => ?_, ok⟩
    · unfold dayMs
      simp only
      rw [f0, d0]
      have : (if (dayGo p s row).1 = 0 then (0 : Int) else (dayGo p s row).1) = (dayGo p s row).1 := by split <;> simp_all
      rw [this]
      exact bx
    · have := m.dl k hk
      have := kp.size
      have := kc.size
      omega
    · unfold dayMs
      simp only
      have ce2 : CeR w2 cev (dayGo p s row).2.2.ce := h.ce
      refine ce2.blk (fun g hgg => ?_)
      obtain ⟨c, fr, e⟩ := ce2.lt g hgg
      exact (keepT e (by decide) (by decide)).trans e.symm
    · exact pa'
    · rcases hg g hgg with q | q
      · exact m.dp g q z
      · have := m.dl g z
        have := kp.size
        omega
  · intro g hgg
    rcases hg g hgg with q | q
    · exact .inl q
    · right
      have := kp.size
      omega
end
end Go.Proofs.YtpfjnnkjoabgbaaGreatDoor

namespace Go.Proofs.YtpfjnnkjoabgbaaGreatDoor
open Go.RowKit
set_option linter.unusedVariables false
set_option linter.unusedSimpArgs false
set_option maxRecDepth 100000 in
theorem goThrough_none {K : Kx} {w : World} {steps : Int} {r : Rn} (h : RoE K w steps r) (hc : K.codev = .slice none 0 0) : Calls Tryz.prog 29 #[.pointer (some ⟨K.rb, 0, none⟩)] w fun e w' => e = .returned (.int .i64 0) ∧ w' = w := by
  obtain ⟨stv, slv, flv, h⟩ := h
  have c1 := (run_cells h).2.1
  rw [hc] at c1
  clear h hc
  go_enter Tryz.func29, Tryz.ntmps29
  go_wp2
  go_step3
  go_wp2
  rw [Exit.noGoto_ret]
  go_ret
  exact ⟨rfl, rfl⟩
theorem DyE.back {D : Nat → Prop} {w wA : World} {mb : Nat} {p : Pg} {n : Nds} {cev pav : Value} {s : Ms} {row : List Cl} {e : Ending} {w' : World} (h : DyE D wA mb p n cev pav s row e w') (b : Below w.heap.size w wA) : DyE D w mb p n cev pav s row e w' := by
  obtain ⟨k, flv, pav', e, m, o, g⟩ := h
  refine ⟨(Kp.below b _).trans k (fun _ _ z => z), flv, pav', e, m, ownsRow_base o b.size, fun x hx => ?_⟩
  rcases g x hx with q | q
  · exact .inl q
  · right; have := b.size; omega
theorem cd_none {p : Pg} (hc : canP p) {t : Int} {v : Value} (h : CdE p.days t v) (e : dayCode p.days t = []) : v = .slice none 0 0 := by
  rcases h with ⟨_, q⟩ | ⟨i, hi, _, q, _⟩
  · exact q
  · have := (hc.2.2.2.1 i hi).1
    rw [e] at q
    rw [← q] at this
    simp at this
theorem rc_inR {w : World} {a : Option Addr} {m : Nat} {row : List Cl} (h : RC w a m row) : ∀ c ∈ row, inR c.v := fun c hc => wf_inR (h.2.2.1 c hc)
set_option maxRecDepth 100000 in
set_option maxHeartbeats 1600000 in
theorem day_any {D : Nat → Prop} {w : World} {mb : Nat} {p : Pg} {cev pav : Value} {s : Ms} (m : McV D w mb p (vfyA p).2.2.2 cev pav s) (hv : (vfyA p).1 = 0) (no : ¬ s.over p.hor) {a : Option Addr} {mm cap : Nat} {row : List Cl} (hr : RC w a mm row) : Calls Tryz.prog 16 #[.pointer (some ⟨mb, 0, none⟩), .slice a mm cap] w fun e w' => DyE D w mb p (vfyA p).2.2.2 cev pav s row e w' := by
  have KO := Lib.hid (over_any m.box)
  rw [decide_eq_false no] at KO
  obtain ⟨n1, n2, n3, n4, n5, n6, n7, n8, hc⟩ := nds_of hv
  have DK := Lib.hid (fun (q : dayCode p.days s.today ≠ []) => dayOk_of hv q)
  generalize (vfyA p).2.2.2 = n at *
  go_enter Tryz.func16, Tryz.ntmps16
  go_wp2_with fail
  go_at_call 15
  refine KO.out.mono ?_
  rintro e wA ⟨rfl, bA⟩
  have mA := m.lat bA
  have rA := hr.later bA
  obtain ⟨c0, c3, c7, c8, c10, c11, c14, c15, c16⟩ := mach_over mA.box
  have KB := Lib.hid (begin_any (cap := cap) c0 c7 c8 c11 mA.prog hc.2.2.1 n4 n5 n2 n3 n8 rA)
  clear c0 c3 c7 c8 c10 c11 c14 c15 c16 KO
  go_wp2_with fail
  go_at_call 28
  refine KB.out.mono ?_
  intro e w1 hb
  obtain ⟨b1, rb, gr, sb, sc, codev, rfl, g1, g2, g3, bx, rc, st, cd⟩ := hb
  have R1 := Lib.hid (day_ro mA no b1 g1 g2 g3 bx st)
  have hi := rc_inR hr
  have KE1 := Lib.hid (day_ke (codev := codev) (row := row) mA b1 g1 g2 g3 bx st rc hi n8)
  have KG : Calls Tryz.prog 29 #[.pointer (some ⟨rb, 0, none⟩)] w1 fun e w' => e = .returned (.int .i64 (dayGo p s row).1) ∧ RoE (dayK wA w1 mb p n s cev pav codev rb gr sb) w' (s.steps + ((dayGo p s row).2.1 : Int)) (dayGo p s row).2.2 := by
    by_cases q : dayCode p.days s.today = []
    · have e : dayGo p s row = (0, 0, s.begun) := by unfold dayGo; rw [q]; rfl
      rw [e]
      refine (goThrough_none R1.out (cd_none hc cd q)).mono ?_
      rintro e' w' ⟨rfl, rfl⟩
      exact ⟨rfl, by simpa using R1.out⟩
    · exact goThrough_any KE1.out (day_cd mA b1 g1 g3 cd q) (DK.out q) hc mA.ok R1.out _ rfl
  have lenC : (dayCode p.days s.today).length ≤ 262144 := by
    by_cases q : dayCode p.days s.today = []
    · rw [q]; simp
    · exact (DK.out q).len
  have KG2 := Lib.hid KG
  obtain ⟨vs, pa⟩ := (mA.lat b1).pa
  have rw1 : RwV w1 (.slice (some ⟨gr, 0, none⟩) p.names.length p.names.length) (fitR p.names.length row) := ⟨some ⟨gr, 0, none⟩, p.names.length, by rw [fitR_len], .inr ⟨gr, 0, _, _, rfl, rc.block, fun i hi => by rw [Nat.zero_add]; exact rc.fc i hi⟩⟩
  have PA := Lib.hid (fun w2 (hq : RoE (dayK wA w1 mb p n s cev pav codev rb gr sb) w2 (s.steps + ((dayGo p s row).2.1 : Int)) (dayGo p s row).2.2) => day_pa mA b1 g1 g3 hq pa st bx rw1)
  have FI := Lib.hid (fun w2 w3 hq kp (hcl : ClE w2 mb p n s.today (s.steps + ((dayGo p s row).2.1 : Int)) cev pav s.past (fitR p.names.length row) (dayGo p s row).1 w3) => day_end (codev := codev) (gr := gr) mA no n1 n5 lenC hi b1 g1 g3 hq kp hcl)
  have BA := Lib.hid bA
  have pl : s.past.length ≤ 100000 := by have := m.ok.pl; have := m.ok.t1; omega
  have tt : 0 ≤ s.today ∧ s.today ≤ 100000 := by have := m.ok.t0; have := m.ok.t1; omega
  clear KE1 R1 KG DK KB mA m hr rA bx rc st cd rw1 bA
  go_wp2_with fail
  go_at_call 29
  refine KG2.out.mono ?_
  rintro e w2 ⟨rfl, h2⟩
  obtain ⟨p2, r2, k2⟩ := PA.out w2 h2
  have H2 := Lib.hid h2
  obtain ⟨stv, slv, flv, h3⟩ := h2
  have KC := Lib.hid (close_any h3.mb p2 pl tt r2 (dayGo p s row).1)
  have x4 := (run_cells h3).2.2.2.2.1
  have x4 : w2.cell? ⟨rb, 4, none⟩ = some (.slice (some ⟨gr, 0, none⟩) p.names.length p.names.length) := x4
  have K2 := Lib.hid k2
  clear h3 p2 r2 k2 PA KG2 pa
  go_wp2_with fail
  go_at_call 30
  refine KC.out.mono ?_
  rintro e w3 ⟨rfl, h4⟩
  obtain ⟨fv, x7, dy⟩ := FI.out w2 w3 H2.out K2.out h4
  have DY := Lib.hid (dy.back BA.out)
  clear dy h4 KC FI x4
  generalize (dayGo p s row).1 = f at *
  go_wp2
  go_ret3
  exact DY.out
end Go.Proofs.YtpfjnnkjoabgbaaGreatDoor
