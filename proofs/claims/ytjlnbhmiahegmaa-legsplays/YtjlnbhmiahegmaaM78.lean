/-
  WALK: legs: actions played one after the other (play).
-/
import Derived.Test.YtjlnbhmiahegmaaM56
namespace Go.Proofs.Ytjlnbhmiahegmaa
open Go.RowKit
set_option linter.unusedVariables false
set_option linter.unusedSimpArgs false

set_option maxRecDepth 100000 in
theorem pcatch_panicking (tb bp pb : Nat) (f td x y : Int) (hf : ¬ f = 0) (w : World) (h0 : w.cell? ⟨tb, 0, none⟩ = some (.int .i64 td)) (h1 : w.cell? ⟨bp, 0, none⟩ = some (.pointer (some ⟨pb, 0, none⟩)))
    (hc : w.cell? ⟨pb, 3, none⟩ = some (.int .i64 x)) (hz : w.frozen? ⟨pb, 3, none⟩ = false) (hc' : w.cell? ⟨pb, 4, none⟩ = some (.int .i64 y)) (hz' : w.frozen? ⟨pb, 4, none⟩ = false) :
    CallsD Try.prog 48 #[.pointer (some ⟨tb, 0, none⟩), .pointer (some ⟨bp, 0, none⟩)] (.panicking ({ v := .iface 31 (.int .i64 f), recovered := false } :: [])) w fun e u' w' =>
      e = .returned (.tuple #[]) ∧ u' = .panicking ({ v := .iface 31 (.int .i64 f), recovered := true } :: []) ∧ w' = (w.setCell ⟨pb, 3, none⟩ (.int .i64 f)).setCell ⟨pb, 4, none⟩ (.int .i64 td) := by
  have hf1 : (f != 0) = true := by simpa using hf
  refine callsD_of_wpS Try.func48 rfl fun c₀ cs hu => ?_
  apply wpS_seq
  apply wpS_region
  simp [wpOpsS, go_sem, recoverD, hu, Try.ntmps48, Exit.thenS]
  refine (faultOf_f f w).mono ?_
  rintro e w1 ⟨rfl, rfl⟩
  simp only []
  apply wpS_seq
  apply wpS_region
  simp [wpOpsS, go_sem, Exit.thenS, hf1]
  refine wpS_cond (t := true) (by simp [Act.eval, Array.replicate, hf]) ?_
  simp only [if_true]
  refine wpS_of_wp ?_
  go_wp2
  cases c₀
  simp_all [bodyPostS, results, Try.results48]
set_option maxRecDepth 100000 in
theorem pcatch_idle (tb bp : Nat) (w : World) :
    CallsD Try.prog 48 #[.pointer (some ⟨tb, 0, none⟩), .pointer (some ⟨bp, 0, none⟩)] .returning w fun e u' w' => e = .returned (.tuple #[]) ∧ u' = .returning ∧ w' = w := by
  refine callsD_of_wpS Try.func48 rfl fun c₀ cs hu => ?_
  apply wpS_seq
  apply wpS_region
  simp [wpOpsS, go_sem, recoverD, hu, Try.ntmps48, Exit.thenS]
  refine (faultOf_nil w).mono ?_
  rintro e w1 ⟨rfl, rfl⟩
  simp only []
  apply wpS_seq
  apply wpS_region
  simp [wpOpsS, go_sem, Exit.thenS]
  refine wpS_cond (t := false) (by simp [Act.eval, Array.replicate]) ?_
  simp only [Bool.false_eq_true, if_false]
  refine wpS_of_wp (wp_skip ?_)
  cases c₀
  simp_all [bodyPostS, results, Try.results48]
/-- Where a function has no results, its slots don't matter at the door. -/
theorem leaves_tmps {fn : Func} (h0 : fn.results = #[]) {t t' : Array Value} {R : Ending → World → Prop} : ∀ (ds : List Deferred) (u : FrameMode) (w : World), Leaves Try.prog fn t R ds u w → Leaves Try.prog fn t' R ds u w
  | [], u, w, h => by
    cases u with
    | run => exact h
    | returning =>
      obtain ⟨v, hr, hR⟩ := h
      rw [results_none h0] at hr
      injection hr with hr
      subst hr
      exact ⟨_, results_none h0 _ _ _, hR⟩
    | panicking c => exact h
  | d :: ds, u, w, h => by
    obtain ⟨hrun, fv, cap, f, args, htar, hinv, hcall⟩ := h
    refine ⟨hrun, fv, cap, f, args, htar, hinv, fun c cs hc => ?_⟩
    obtain ⟨e, u', w', fr, h1, h2⟩ := hcall c cs hc
    refine ⟨e, u', w', fr, ?_, h2⟩
    cases e with
    | returned v => exact leaves_tmps h0 ds _ _ h1
    | panicked c => exact leaves_tmps h0 ds _ _ h1
    | outgrown => exact h1
/-- The boxes of play: the player's, and today's. -/
def OB (bp tb pb : Nat) (d : Int) (k : Nat) : Option Obj := if k = bp then some (.cells #[.pointer (some ⟨pb, 0, none⟩)] 75 (0, 0)) else if k = tb then some (.cells #[.int .i64 d] 3 (0, 0)) else none
section
variable {wS w w' : World} {bp tb pb : Nat} {d : Int} {ra : Option Addr} {rn rc : Nat} {rs : List Rw} {cb : Nat} {C : List Int} {fv : Value} {F : List Fl}
theorem PL.box (h : PL (OB bp tb pb d) wS w pb ra rn rc rs cb C fv F) : w.cell? ⟨bp, 0, none⟩ = some (.pointer (some ⟨pb, 0, none⟩)) := by
  have hb : Bk w bp #[.pointer (some ⟨pb, 0, none⟩)] 75 := (h.kp bp _ (by simp [OB])).1
  exact hb.cell 0
theorem PL.tod (h : PL (OB bp tb pb d) wS w pb ra rn rc rs cb C fv F) (hne : tb ≠ bp) : Bk w tb #[.int .i64 d] 3 := (h.kp tb _ (by simp [OB, hne])).1
theorem PL.today (h : PL (OB bp tb pb d) wS w pb ra rn rc rs cb C fv F) (hne : tb ≠ bp) (hlo : wS.heap.size ≤ tb) (d' : Int) : PL (OB bp tb pb d') wS (w.setCell ⟨tb, 0, none⟩ (.int .i64 d')) pb ra rn rc rs cb C fv F := by
  obtain ⟨k1, k2, k3, k4⟩ := h.kp tb (.cells #[.int .i64 d] 3 (0, 0)) (by simp [OB, hne])
  have ht : Bk w tb #[.int .i64 d] 3 := k1
  refine ⟨h.bel.setCell (p := ⟨tb, 0, none⟩) hlo _, h.rl, h.p.other tb 0 _ k2, h.plo, h.clo, h.c.keep (heap_set_other _ _ _ _ _ k3), h.cn, h.cbd, own_keep h.fo (fun k hk => heap_set_other _ _ _ _ _ (fun e => k4 (by rw [e]; exact hk.symm))), fun k o hk => ?_⟩
  by_cases e1 : k = bp
  · subst e1
    obtain ⟨q1, q2, q3, q4⟩ := h.kp k o (by simpa [OB] using hk)
    exact ⟨by rw [heap_set_other _ _ _ _ _ hne]; exact q1, q2, q3, q4⟩
  · by_cases e2 : k = tb
    · subst e2
      simp only [OB, if_neg e1, if_true, Option.some.injEq] at hk
      subst hk
      have := ht.set 0 (.int .i64 d') (by simp)
      exact ⟨by simpa [Bk] using this, k2, k3, k4⟩
    · simp [OB, e1, e2] at hk
theorem PL.boxes (h : PL (fun _ => none) wS w pb ra rn rc rs cb C fv F) : PL (OB w.heap.size (w.heap.size + 1) pb 0) wS ((w.alloc (.cells #[.pointer (some ⟨pb, 0, none⟩)] 75)).alloc (.cells #[.int .i64 0] 3)) pb ra rn rc rs cb C fv F := by
  have b : Below w.heap.size w ((w.alloc (.cells #[.pointer (some ⟨pb, 0, none⟩)] 75)).alloc (.cells #[.int .i64 0] 3)) := ((Below.refl _ _).alloc (Nat.le_refl _) _).alloc (by simp) _
  have h2 := h.later b
  refine ⟨h2.bel, h2.rl, h2.p, h2.plo, h2.clo, h2.c, h2.cn, h2.cbd, h2.fo, fun k o hk => ?_⟩
  have l1 := h.p.lt
  have l2 := h.c.lt
  have l3 : ∀ y, fv.ownBlock = some y → y < w.heap.size := fun y e => (h.fo.lt y e).2
  by_cases e1 : k = w.heap.size
  · subst e1
    simp only [OB, if_true, Option.some.injEq] at hk
    subst hk
    exact ⟨(Bk.new w #[.pointer (some ⟨pb, 0, none⟩)] 75).alloc _, by omega, by omega, fun e => by have := l3 _ e.symm; omega⟩
  · by_cases e2 : k = w.heap.size + 1
    · subst e2
      simp only [OB, if_neg e1, if_true, Option.some.injEq] at hk
      subst hk
      have := Bk.new (w.alloc (.cells #[.pointer (some ⟨pb, 0, none⟩)] 75)) #[.int .i64 0] 3
      rw [World.size_alloc] at this
      exact ⟨this, by omega, by omega, fun e => by have := l3 _ e.symm; omega⟩
    · simp [OB, e1, e2] at hk
end
/-- What the player holds at the end. -/
structure PF (wS w : World) (pb : Nat) (F : List Fl) (f d : Int) : Prop where
  bel : Below wS.heap.size wS w
  p : ∃ x y fv, Bk w pb #[x, y, fv, .int .i64 f, .int .i64 d] 77 ∧ w.ownsRow wS.heap.size 51 3 fv F.length (fcs F)
theorem ActE.good {O : Nat → Option Obj} {wS w : World} {pb : Nat} {ra : Option Addr} {rn rc : Nat} {rs : List Rw} {cb : Nat} {C : List Int} {fv : Value} {F : List Fl} {a : At} {e : Ending} (h : ActE O wS pb ra rn rc rs cb C fv F a e w) (z : (doneR (Rws rs) C a).2.2 = 0) : (∃ u, e = .returned u) ∧ (((doneR (Rws rs) C a).2.1 = false ∧ PL O wS w pb ra rn rc rs cb C fv F) ∨
    ((doneR (Rws rs) C a).2.1 = true ∧ a.kind = 1 ∧ ∃ fv', PL O wS w pb ra rn rc rs cb C fv' (F ++ [⟨a.day, a.cur, (doneR (Rws rs) C a).1⟩])) ∨
    ((doneR (Rws rs) C a).2.1 = true ∧ ¬ a.kind = 1 ∧ PL O wS w pb ra rn rc rs cb (C.set a.cell.toNat (doneR (Rws rs) C a).1) fv F)) := by
  rcases h with h | h
  · exact absurd z h.1
  · exact h.2
theorem ActE.dead2 {O : Nat → Option Obj} {wS w : World} {pb : Nat} {ra : Option Addr} {rn rc : Nat} {rs : List Rw} {cb : Nat} {C : List Int} {fv : Value} {F : List Fl} {a : At} {e : Ending} (h : ActE O wS pb ra rn rc rs cb C fv F a e w) (z : ¬ (doneR (Rws rs) C a).2.2 = 0) : (e = .returned (.tuple #[]) ∧ RowKit.Hid False) ∨ (e = pnc (doneR (Rws rs) C a).2.2 ∧ PL O wS w pb ra rn rc rs cb C fv F) := by
  rcases h with h | h
  · exact .inr h.2
  · exact absurd h.1 z
theorem PL.pf {O : Nat → Option Obj} {wS w : World} {pb : Nat} {ra : Option Addr} {rn rc : Nat} {rs : List Rw} {cb : Nat} {C : List Int} {fv : Value} {F : List Fl} (h : PL O wS w pb ra rn rc rs cb C fv F) : PF wS w pb F 0 0 := ⟨h.bel, _, _, _, h.p, h.fo⟩
theorem PL.pf2 {O : Nat → Option Obj} {wS w : World} {pb : Nat} {ra : Option Addr} {rn rc : Nat} {rs : List Rw} {cb : Nat} {C : List Int} {fv : Value} {F : List Fl} (h : PL O wS w pb ra rn rc rs cb C fv F) (f d : Int) : PF wS ((w.setCell ⟨pb, 3, none⟩ (.int .i64 f)).setCell ⟨pb, 4, none⟩ (.int .i64 d)) pb F f d := by
  refine ⟨(h.bel.setCell (p := ⟨pb, 3, none⟩) h.plo _).setCell (p := ⟨pb, 4, none⟩) h.plo _, .slice ra rn rc, .slice (some ⟨cb, 0, none⟩) C.length C.length, fv, ?_, own_keep h.fo (fun k hk => ?_)⟩
  · have := (h.p.set 3 (.int .i64 f) (by simp)).set 4 (.int .i64 d) (by simp)
    simpa using this
  · have hne : pb ≠ k := fun e => h.ne1 (by rw [e]; exact hk.symm)
    rw [heap_set_other _ _ _ _ _ hne, heap_set_other _ _ _ _ _ hne]
set_option maxRecDepth 100000 in
set_option maxHeartbeats 4000000 in
theorem play_any {wS w : World} {al : List At} {pa : Option Addr} {pc : Nat} (hA : AL wS pa al) {pb : Nat} {ra : Option Addr} {rn rc : Nat} {rs : List Rw} {cb : Nat} {C : List Int} (hP : PL (fun _ => none) wS w pb ra rn rc rs cb C (.slice none 0 0) [])
    (hR : ∀ r ∈ Rws rs, ∀ c ∈ r, inR c.v) (hN : ∀ a ∈ al, a.e.n ≤ 1048576 ∧ ∀ s ∈ a.ss, s.e.n ≤ 1048576) (hI : ∀ a ∈ al, isA a (C.length : Int)) (hl : al.length ≤ 2048) :
    Calls Try.prog 33 #[.pointer (some ⟨pb, 0, none⟩), .slice pa al.length pc] w fun e w' => e = .returned (.tuple #[]) ∧ PF wS w' pb (playR (Rws rs) al C).1 (playR (Rws rs) al C).2.1 (playR (Rws rs) al C).2.2 := by
  have hmf : ∀ (fn : Fn) (first cap : Array Value) (w : World), (Instr.makeFunc fn first cap).run Try.prog w = .ok (.func fn first cap) w := fun _ _ _ _ => rfl
  obtain ⟨w1, hw1⟩ : ∃ w1, (w.alloc (.cells #[.pointer (some ⟨pb, 0, none⟩)] 75)).alloc (.cells #[.int .i64 0] 3) = w1 := ⟨_, rfl⟩
  have P1 := Lib.hid (show PL (OB w.heap.size (w.heap.size + 1) pb 0) wS w1 pb ra rn rc rs cb C (.slice none 0 0) [] by rw [← hw1]; exact hP.boxes)
  have HW1 := Lib.hid hw1
  have HA := Lib.hid hA
  have HR := Lib.hid hR
  have HM := Lib.hid (show ∀ i, i < al.length → al.getD i default ∈ al from fun i hi => by rw [show al.getD i default = al[i] by simp [List.getD, hi]]; exact List.getElem_mem hi)
  have HN := Lib.hid hN
  have HI := Lib.hid hI
  have WL := Lib.hid (show wS.heap.size ≤ w.heap.size from hP.bel.size)
  have PS0 := Lib.hid (PS.new (R := Rws rs) (al := al) hP.cbd)
  clear hw1 hA hR hN hI hP
  obtain ⟨n, hn⟩ : ∃ n, al.length = n := ⟨_, rfl⟩
  have HL := Lib.hid hn
  rw [hn] at hl ⊢
  clear hn
  go_enter_defers Try.func33, Try.ntmps33
  go_wp2_with fail
  rw [HW1.out]
  clear HW1
  go_loopw [9] (fun t wr => ∃ (i : Nat) (d : Int) (C' : List Int) (fv : Value) (F : List Fl), i ≤ n ∧ t = .int .i64 i ∧ PL (OB w.heap.size (w.heap.size + 1) pb d) wS wr pb ra rn rc rs cb C' fv F ∧ RowKit.Hid (PS (Rws rs) al C i C' F)) (fun t _ => n - (intOf t).toNat)
  case atStart => exact ⟨0, 0, C, _, [], by omega, rfl, P1.out, PS0.out⟩
  case round =>
    clear P1 PS0
    obtain ⟨i, d, C', fv, F, hi, rfl, hP, HPS⟩ := hrel
    have PP := Lib.hid hP
    clear hP
    have TL := Lib.hid (show wS.heap.size ≤ w.heap.size + 1 from Nat.le_succ_of_le WL.out)
    have TN := Lib.hid (show w.heap.size + 1 ≠ w.heap.size from by omega)
    by_cases il : i < n
    · have ic : (i : Int) < (n : Int) := by omega
      have il' : i < al.length := by rw [HL.out]; exact il
      obtain ⟨b, o, hpa, hb, hat⟩ := HA.out.at (by omega)
      subst hpa
      obtain ⟨hav, hac⟩ := hat i il'
      have c0 := (hac.later PP.out.bel hb).day
      have t0 := (PP.out.tod TN.out).cell 0
      have f0 := (PP.out.tod TN.out).frozen 0
      simp at t0
      have KA := Lib.hid (fun (W : World) (fv' : Value) (hP : PL (OB w.heap.size (w.heap.size + 1) pb (al.getD i default).day) wS W pb ra rn rc rs cb C' fv F) => act_any hav hac hb hP HR.out (HN.out _ (HM.out i il')).2 (HN.out _ (HM.out i il')).1 (by rw [HPS.out.len]; exact HI.out _ (HM.out i il')) (by have := HPS.out.fl; omega))
      have PSS := Lib.hid HPS.out
      have FT := Lib.hid (show ¬ (doneR (Rws rs) C' (al.getD i default)).2.2 = 0 → playR (Rws rs) al C = (F, (doneR (Rws rs) C' (al.getD i default)).2.2, (al.getD i default).day) from fun z => PSS.out.fault il' z)
      have VI := Lib.hid (show (doneR (Rws rs) C' (al.getD i default)).2.1 = true → inR (doneR (Rws rs) C' (al.getD i default)).1 from fun _ => by
        have q := turnR_in (R := Rws rs) (C := C') (al.getD i default).ss ((al.getD i default).e.val (Rws rs) C') (val_in hav.2.2.2.1 (Rws rs) C' HR.out PSS.out.bd)
        unfold doneR
        split
        · exact zero_inR
        · split
          · exact zero_inR
          · split
            · exact zero_inR
            · exact q)
      have NX := Lib.hid (show ∀ (w3 : World) (dd : Int), (doneR (Rws rs) C' (al.getD i default)).2.2 = 0 → (((doneR (Rws rs) C' (al.getD i default)).2.1 = false ∧ PL (OB w.heap.size (w.heap.size + 1) pb dd) wS w3 pb ra rn rc rs cb C' fv F) ∨
          ((doneR (Rws rs) C' (al.getD i default)).2.1 = true ∧ (al.getD i default).kind = 1 ∧ ∃ fv', PL (OB w.heap.size (w.heap.size + 1) pb dd) wS w3 pb ra rn rc rs cb C' fv' (F ++ [⟨(al.getD i default).day, (al.getD i default).cur, (doneR (Rws rs) C' (al.getD i default)).1⟩])) ∨
          ((doneR (Rws rs) C' (al.getD i default)).2.1 = true ∧ ¬ (al.getD i default).kind = 1 ∧ PL (OB w.heap.size (w.heap.size + 1) pb dd) wS w3 pb ra rn rc rs cb (C'.set (al.getD i default).cell.toNat (doneR (Rws rs) C' (al.getD i default)).1) fv F)) →
          ∃ (C2 : List Int) (fv2 : Value) (F2 : List Fl), PL (OB w.heap.size (w.heap.size + 1) pb dd) wS w3 pb ra rn rc rs cb C2 fv2 F2 ∧ RowKit.Hid (PS (Rws rs) al C (i + 1) C2 F2) from fun w3 dd z h => by
        rcases h with ⟨h1, h2⟩ | ⟨h1, h2, fv', h3⟩ | ⟨h1, h2, h3⟩
        · exact ⟨_, _, _, h2, PSS.out.skip il' z h1⟩
        · exact ⟨_, _, _, h3, PSS.out.flow il' z h1 h2⟩
        · exact ⟨_, _, _, h3, PSS.out.sets il' z h1 h2 (VI.out h1)⟩)
      obtain ⟨dy, hdy⟩ : ∃ x, (al.getD i default).day = x := ⟨_, rfl⟩
      rw [hdy] at c0 KA FT
      obtain ⟨w2, hw2⟩ : ∃ w2, wr.setCell ⟨w.heap.size + 1, 0, none⟩ (.int .i64 dy) = w2 := ⟨_, rfl⟩
      have P2 := Lib.hid (show PL (OB w.heap.size (w.heap.size + 1) pb dy) wS w2 pb ra rn rc rs cb C' fv F by rw [← hw2]; exact PP.out.today TN.out TL.out dy)
      have bx := P2.out.box
      have HW2 := Lib.hid hw2
      clear hat hav hac hdy hw2
      by_cases z : (doneR (Rws rs) C' (al.getD i default)).2.2 = 0
      · have HZ := Lib.hid z
        clear z
        go_wp2_with fail
        rw [HW2.out]
        refine wp_region_any (by kernel_rfl) ?_
        change wpAny _ _ _ _ _ _ _ (World.drew _)
        refine wpAny_take (i := 1) (v := .slice (some ⟨b, o, none⟩) n pc) rfl (by kernel_rfl) (by kernel_rfl) (by kernel_rfl) (fun c a w h => leaves_tmps rfl _ _ _ h) (Or.inl ⟨by rfl, (by intro w; first | (go_simp; done) | (go_simp; with_reducible rfl))⟩) ?_
        refine wpAny_take (i := 2) (v := .int .i64 (i : Int)) rfl (by kernel_rfl) (by kernel_rfl) (by kernel_rfl) (fun c a w h => leaves_tmps rfl _ _ _ h) (Or.inl ⟨by rfl, (by intro w; first | (go_simp; done) | (go_simp; with_reducible rfl))⟩) ?_
        refine wpAny_take (i := 3) (v := .pointer (some ⟨b, o + i * 9, none⟩)) rfl (by kernel_rfl) (by kernel_rfl) (by kernel_rfl) (fun c a w h => leaves_tmps rfl _ _ _ h) (Or.inl ⟨by rfl, (by intro w; first | (go_simp; done) | (go_simp; with_reducible rfl))⟩) ?_
        refine wpAny_ready (rs := [0]) (by kernel_rfl) (by simp) ?_
        refine AllReady.cons rfl (fun K hK => ?_) AllReady.nil
        go_simp
        refine hK _ _ ?_
        clear hK K
        refine wpAny_ready (rs := [4]) (by kernel_rfl) (by simp) ?_
        refine AllReady.cons rfl (fun K hK => ?_) AllReady.nil
        go_simp
        go_at_call 49
        refine (KA.out _ fv P2.out.drew).mono ?_
        intro e w3 he
        rcases he.good HZ.out with ⟨⟨u, rfl⟩, hres⟩
        have RES := Lib.hid hres
        clear hres he
        go_simp
        refine hK _ _ ?_
        clear hK K
        refine wpAny_done (by kernel_rfl) ?_ _
        all_goals go_wp2
        all_goals
          go_roundw
          case rel =>
            obtain ⟨C2, fv2, F2, q1, q2⟩ := NX.out _ _ HZ.out RES.out
            exact ⟨i + 1, dy, C2, fv2, F2, by omega, by go_num, q1, q2⟩
          case measure => simp [intOf]; omega
      · have HZ := Lib.hid z
        have fz := FT.out z
        obtain ⟨ff, hff⟩ : ∃ x, (doneR (Rws rs) C' (al.getD i default)).2.2 = x := ⟨_, rfl⟩
        rw [hff] at fz z
        have FZ := Lib.hid fz
        have HFF := Lib.hid hff
        have ZF := Lib.hid z
        clear z hff fz
        go_wp2_with fail
        rw [HW2.out]
        refine wp_region_any (by kernel_rfl) ?_
        change wpAny _ _ _ _ _ _ _ (World.drew _)
        refine wpAny_take (i := 1) (v := .slice (some ⟨b, o, none⟩) n pc) rfl (by kernel_rfl) (by kernel_rfl) (by kernel_rfl) (fun c a w h => leaves_tmps rfl _ _ _ h) (Or.inl ⟨by rfl, (by intro w; first | (go_simp; done) | (go_simp; with_reducible rfl))⟩) ?_
        refine wpAny_take (i := 2) (v := .int .i64 (i : Int)) rfl (by kernel_rfl) (by kernel_rfl) (by kernel_rfl) (fun c a w h => leaves_tmps rfl _ _ _ h) (Or.inl ⟨by rfl, (by intro w; first | (go_simp; done) | (go_simp; with_reducible rfl))⟩) ?_
        refine wpAny_take (i := 3) (v := .pointer (some ⟨b, o + i * 9, none⟩)) rfl (by kernel_rfl) (by kernel_rfl) (by kernel_rfl) (fun c a w h => leaves_tmps rfl _ _ _ h) (Or.inl ⟨by rfl, (by intro w; first | (go_simp; done) | (go_simp; with_reducible rfl))⟩) ?_
        refine wpAny_ready (rs := [0]) (by kernel_rfl) (by simp) ?_
        refine AllReady.cons rfl (fun K hK => ?_) AllReady.nil
        go_simp
        refine hK _ _ ?_
        clear hK K
        refine wpAny_ready (rs := [4]) (by kernel_rfl) (by simp) ?_
        refine AllReady.cons rfl (fun K hK => ?_) AllReady.nil
        go_simp
        go_at_call 49
        refine (KA.out _ fv P2.out.drew).mono ?_
        intro e w3 he
        rcases he.dead2 HZ.out with ⟨_, hF⟩ | ⟨he2, hp3⟩
        · exact hF.out.elim
        · have P3 := Lib.hid hp3
          have KC := Lib.hid (pcatch_panicking (w.heap.size + 1) w.heap.size pb ff dy 0 0 ZF.out w3 ((hp3.tod TN.out).cell 0) hp3.box (hp3.p.cell 3) (hp3.p.frozen 3) (hp3.p.cell 4) (hp3.p.frozen 4))
          rw [HFF.out] at he2
          subst he2
          clear hp3 he
          unfold pnc
          go_wp2
          refine leaves_cons (f := 48) (args := #[.pointer (some ⟨w.heap.size + 1, 0, none⟩), .pointer (some ⟨w.heap.size, 0, none⟩)]) (by simp) (by simp [go_sem]) ?_
          refine KC.out.mono ?_
          rintro e u' w'' ⟨rfl, rfl, rfl⟩
          simp [Leaves, settle, results, Try.results33, go_sem]
          rw [FZ.out]
          exact P3.out.pf2 _ _
    · obtain rfl : i = n := by omega
      have FZ := Lib.hid (show playR (Rws rs) al C = (F, 0, 0) from by
        rw [HPS.out.is, List.drop_eq_nil_of_le (by rw [HL.out]; exact Nat.le_refl _)]; simp [playR])
      go_wp2
      refine leaves_cons (f := 48) (args := #[.pointer (some ⟨w.heap.size + 1, 0, none⟩), .pointer (some ⟨w.heap.size, 0, none⟩)]) (by simp) (by simp [go_sem]) ?_
      refine (pcatch_idle _ _ _).mono ?_
      rintro e u' w'' ⟨rfl, rfl, rfl⟩
      simp [Leaves, settle, results, Try.results33, go_sem]
      rw [FZ.out]
      exact PP.out.pf
end Go.Proofs.Ytjlnbhmiahegmaa

namespace Go.Proofs.Ytjlnbhmiahegmaa
open Go.RowKit
set_option linter.unusedVariables false
set_option linter.unusedSimpArgs false

theorem odd_ok {al : List At} {cells : Int} (h : oddR al cells = 0) : 0 ≤ cells ∧ cells ≤ 512 ∧ (∀ a ∈ al, isA a cells) ∧ al.length ≤ 2048 := by
  unfold oddR at h
  split at h
  · omega
  · rename_i h1
    split at h
    · omega
    · rename_i h2
      split at h
      · omega
      · split at h
        · omega
        · rename_i h4
          exact ⟨by omega, by omega, Classical.not_not.1 h2, by omega⟩
/-- What actions come to: the flows, the fault, its day. -/
noncomputable def outR (R : List (List Cl)) (al : List At) (cells : Int) : List Fl × Int × Int := if oddR al cells = 0 then playR R al (List.replicate cells.toNat 0) else ([], 0, 0)
/-- What Play answers. -/
def PlE (base : Nat) (r : List Fl × Int × Int) (err : Int) (e : Ending) (w' : World) : Prop := ∃ fv, e = .returned (.tuple #[.agg #[fv, .int .i64 r.2.1, .int .i64 r.2.2], .int .i64 err]) ∧ w'.ownsRow base 51 3 fv r.1.length (fcs r.1)
set_option maxRecDepth 100000 in
set_option maxHeartbeats 2000000 in
theorem lplay_any {w : World} {al : List At} {pa : Option Addr} {pc : Nat} (hA : AL w pa al) {ra : Option Addr} {rn rc : Nat} {rs : List Rw} (hR : RL w ra rn rs) (hN : ∀ a ∈ al, a.e.n ≤ 1048576 ∧ ∀ s ∈ a.ss, s.e.n ≤ 1048576) (cells : Int) :
    Calls Try.prog 17 #[.slice pa al.length pc, .int .i64 cells, .slice ra rn rc] w fun e w' => PlE w.heap.size (outR (Rws rs) al cells) (oddR al cells) e w' ∧ Below w.heap.size w w' := by
  obtain ⟨w0, hw0⟩ : ∃ w0, w.alloc (.cells #[.slice none 0 0, .int .i64 0, .int .i64 0] 44) = w0 := ⟨_, rfl⟩
  have X0 := Lib.hid (NB.is hw0)
  have Z0 := Lib.hid (show w0.heap.size = w.heap.size + 1 by rw [← hw0]; simp)
  have HW0 := Lib.hid hw0
  have KP := Lib.hid (playable_any (pc := pc) (hA.later X0.out.1) cells)
  have HA := Lib.hid (hA.later X0.out.1)
  have HR := Lib.hid (hR.later X0.out.1)
  have HRI := Lib.hid (rl_inR hR)
  have HN := Lib.hid hN
  have b0 := X0.out.2.cell 0
  have b1 := X0.out.2.cell 1
  have b2 := X0.out.2.cell 2
  have g0 := X0.out.2.frozen 0
  have g1 := X0.out.2.frozen 1
  have g2 := X0.out.2.frozen 2
  simp at b0 b1 b2
  obtain ⟨er, her⟩ : ∃ x, oddR al cells = x := ⟨_, rfl⟩
  have HER := Lib.hid her
  rw [her] at KP
  obtain ⟨n, hn⟩ : ∃ n, al.length = n := ⟨_, rfl⟩
  have HL := Lib.hid hn
  rw [hn] at KP ⊢
  clear hw0 hA hR hN her hn
  go_enter Try.func17, Try.ntmps17
  go_wp2_with fail
  rw [HW0.out]
  clear HW0
  go_at_call 32
  refine KP.out.mono ?_
  rintro e w1 ⟨rfl, hw1⟩
  have hw1' := hw1.symm
  subst hw1'
  by_cases z : er = 0
  · subst z
    obtain ⟨ok1, ok2, ok3, ok4⟩ := odd_ok HER.out
    have HI := Lib.hid ok3
    have H48 := Lib.hid ok4
    obtain ⟨m, hm⟩ : ∃ m : Nat, cells = (m : Int) := ⟨cells.toNat, by omega⟩
    subst hm
    have MK := fun W => make_is0 W m (by omega)
    obtain ⟨w2, hw2⟩ : ∃ w2, (w0.alloc (.cells (madeCells #[.int .i64 0] m) 3)).alloc (.cells #[.slice ra rn rc, .slice (some ⟨w0.heap.size, 0, none⟩) m m, .slice none 0 0, .int .i64 0, .int .i64 0] 77) = w2 := ⟨_, rfl⟩
    have P2 := Lib.hid (show PL (fun _ => none) w0 w2 (w0.heap.size + 1) ra rn rc rs w0.heap.size (List.replicate m 0) (.slice none 0 0) [] by
      subst hw2
      refine ⟨((Below.refl _ _).alloc (Nat.le_refl _) _).alloc (by simp) _, HR.out, ?_, by omega, Nat.le_refl _, ?_, by simp; omega, fun x hx => by rw [List.eq_of_mem_replicate hx]; exact zero_inR, World.ownsRow_nil _ _ _ _, fun k o hk => by cases hk⟩
      · have := Bk.new (w0.alloc (.cells (madeCells #[.int .i64 0] m) 3)) #[.slice ra rn rc, .slice (some ⟨w0.heap.size, 0, none⟩) m m, .slice none 0 0, .int .i64 0, .int .i64 0] 77
        rw [World.size_alloc] at this
        simpa using this
      · refine ⟨_, (Bk.new w0 _ _).alloc _, by simp [madeCells], fun i hi => ?_⟩
        have hi' : i < m := by simpa using hi
        simp [madeCells, List.getD, hi', Nat.mod_one])
    have HW2 := Lib.hid hw2
    have KL := Lib.hid (play_any (pc := pc) HA.out P2.out HRI.out HN.out (by simpa using HI.out) H48.out)
    rw [HL.out] at KL
    clear hw2 ok1 ok2 ok3 ok4
    go_wp2_with fail
    rw [HW2.out]
    go_at_call 33
    refine KL.out.mono ?_
    rintro e w3 ⟨rfl, hpf⟩
    have OUT := Lib.hid (show outR (Rws rs) al (m : Int) = playR (Rws rs) al (List.replicate m 0) from by unfold outR; rw [HER.out, if_pos rfl]; simp)
    generalize playR (Rws rs) al (List.replicate m 0) = r at hpf OUT
    obtain ⟨F, f, d⟩ := r
    obtain ⟨x, y, fv, hb, ho⟩ := hpf.p
    have BL3 := Lib.hid hpf.bel
    have OW := Lib.hid ho
    have c2 := hb.cell 2
    have c3 := hb.cell 3
    have c4 := hb.cell 4
    simp at c2 c3 c4
    have BX := Lib.hid (X0.out.2.below hpf.bel (by rw [Z0.out]; omega))
    have e0 := BX.out.cell 0
    have e1 := BX.out.cell 1
    have e2 := BX.out.cell 2
    have h0 := BX.out.frozen 0
    have h1 := BX.out.frozen 1
    have h2 := BX.out.frozen 2
    simp at e0 e1 e2
    have SET := Lib.hid (((BX.out.set 0 fv (by simp)).set 1 (.int .i64 f) (by simp)).set 2 (.int .i64 d) (by simp))
    have fvs := own_sl ho
    obtain ⟨fa, fc, hfv⟩ := fvs
    subst hfv
    clear hb ho hpf b0 b1 b2 g0 g1 g2
    go_wp2
    have k0 := SET.out.cell 0
    have k1 := SET.out.cell 1
    have k2 := SET.out.cell 2
    simp only [Array.getElem?_set, List.getElem?_toArray] at k0 k1 k2
    refine bodyPost_ret (v := .tuple #[.agg #[.slice fa F.length fc, .int .i64 f, .int .i64 d], .int .i64 0]) (by simp [results, Try.results17, go_sem, k0, k1, k2]) rfl ?_
    refine ⟨⟨_, by rw [OUT.out, HER.out], ?_⟩, ?_⟩
    · rw [OUT.out]
      refine own_keep (own_mono OW.out (by rw [Z0.out]; omega)) (fun k hk => ?_)
      have := (OW.out.lt k hk).1
      rw [Z0.out] at this
      rw [heap_set_other _ _ _ _ _ (by omega), heap_set_other _ _ _ _ _ (by omega), heap_set_other _ _ _ _ _ (by omega)]
    · have B := X0.out.1.trans (BL3.out.mono (by rw [Z0.out]; omega))
      exact ((B.setCell (p := ⟨w.heap.size, 0, none⟩) (Nat.le_refl _) _).setCell (p := ⟨w.heap.size, 1, none⟩) (Nat.le_refl _) _).setCell (p := ⟨w.heap.size, 2, none⟩) (Nat.le_refl _) _
  · have OUT := Lib.hid (show outR (Rws rs) al cells = ([], 0, 0) from by unfold outR; rw [HER.out, if_neg z])
    have zn : (er != 0) = true := by simpa using z
    have SET := Lib.hid (((X0.out.2.set 0 (.slice none 0 0) (by simp)).set 1 (.int .i64 0) (by simp)).set 2 (.int .i64 0) (by simp))
    go_wp2
    have k0 := SET.out.cell 0
    have k1 := SET.out.cell 1
    have k2 := SET.out.cell 2
    simp only [Array.getElem?_set, List.getElem?_toArray] at k0 k1 k2
    refine bodyPost_ret (v := .tuple #[.agg #[.slice none 0 0, .int .i64 0, .int .i64 0], .int .i64 er]) (by simp [results, Try.results17, go_sem, k0, k1, k2]) rfl ?_
    refine ⟨⟨_, by rw [OUT.out, HER.out], ?_⟩, ?_⟩
    · rw [OUT.out]; exact World.ownsRow_nil _ _ _ _
    · exact ((X0.out.1.setCell (p := ⟨w.heap.size, 0, none⟩) (Nat.le_refl _) _).setCell (p := ⟨w.heap.size, 1, none⟩) (Nat.le_refl _) _).setCell (p := ⟨w.heap.size, 2, none⟩) (Nat.le_refl _) _
end Go.Proofs.Ytjlnbhmiahegmaa
