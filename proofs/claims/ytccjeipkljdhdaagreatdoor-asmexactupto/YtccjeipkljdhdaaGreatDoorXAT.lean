import Derived.Test.YtccjeipkljdhdaaGreatDoorXAR
import Derived.Test.YtccjeipkljdhdaaGreatDoorXAS
import Derived.ScopeJumps
import Derived.WalkMore
namespace Go.Proofs.YtccjeipkljdhdaaGreatDoor
open Go.RowKit
set_option linter.unusedVariables false
set_option linter.unusedSimpArgs false

theorem cut_any (t : ByteArray) (ht : t.size ≤ 16777216) (w : World) :
    Calls Tryz.prog 66 #[.string t, .string ⟨#[10]⟩] w fun e w' => e = .returned (.tuple #[.string (t.extract 0 (fy lfA t 0)), .string (t.extract (fy lfA t 0 + 1) t.size), .bool (decide (fy lfA t 0 < t.size))]) ∧ Below w.heap.size w w' := by
  have K := Lib.hid (cutIn_any t ht w)
  generalize t.extract 0 (fy lfA t 0) = a at *
  generalize t.extract (fy lfA t 0 + 1) t.size = b at *
  generalize decide (fy lfA t 0 < t.size) = c at *
  go_enter Tryz.func66, Tryz.ntmps66
  go_wp2_with (go_at_call 94; refine K.out.mono ?_; rintro e w1 ⟨rfl, h2⟩; have B := Lib.hid h2; clear h2)
  go_ret3
  exact ⟨rfl, B.out⟩
set_option maxRecDepth 100000 in
set_option maxHeartbeats 1000000 in
theorem cutLine_any {w : World} {rb cnt next m : Nat} {av : Option Nat} {t : ByteArray} {p : Ap} (h : RsP rb w t cnt next p m av) (ht : t.size ≤ 16777216) (hc : cnt ≤ 16777216) :
    Calls Tryz.prog 34 #[.pointer (some ⟨rb, 0, none⟩)] w fun e w' => e = .returned (.string (t.extract 0 (fy lfA t 0))) ∧ RsP rb w' (t.extract (fy lfA t 0 + 1) t.size) (cnt + 1) next p m av ∧ FrR rb w w' := by
  have K := Lib.hid (cut_any t ht w)
  have H := Lib.hid h
  obtain ⟨⟨c0, _⟩, _⟩ := h.head
  clear h
  generalize t.extract 0 (fy lfA t 0) = a at *
  generalize t.extract (fy lfA t 0 + 1) t.size = b at *
  generalize decide (fy lfA t 0 < t.size) = c at *
  have e1 : IntKind.i64.wrap ((cnt : Int) + 1) = ((cnt + 1 : Nat) : Int) := by simp [IntKind.wrap, IntKind.bits, IntKind.signed]; omega
  go_enter Tryz.func34, Tryz.ntmps34
  go_wp2_with (go_at_call 66; refine K.out.mono ?_; rintro e w1 ⟨rfl, h2⟩; have F := Lib.hid (FrR.below (rb := rb) h2); have R1 := Lib.hid (H.out.later h2); obtain ⟨⟨c0', f0⟩, _⟩ := R1.out.head; have R2 := Lib.hid (R1.out.put0 b); obtain ⟨_, ⟨c1', f1⟩, _⟩ := R2.out.1.head; clear h2)
  go_ret
  have R3 := R2.out.1.put1 (cnt + 1)
  exact ⟨rfl, R3.1, F.out.trans (R2.out.2.trans R3.2)⟩
theorem own_cutQ {W : World} {B s m n c : Nat} {e : TypeId} {a : Option Addr} {xs : List Value} (h : W.ownsRow B e s (.slice a m c) n xs) : W.ownsRow B e s (.slice a 0 c) 0 [] := by
  rcases h.2 with ⟨q, q0⟩ | ⟨g, cap, cur, q, h1, h2, h3, h4, h5, h6⟩
  · injection q with q1 q2 q3
    subst q1 q2 q3
    exact World.ownsRow_nil _ _ _ _
  · injection q with q1 q2 q3
    subst q1 q3
    exact ⟨by rw [Nat.zero_mul]; rfl, .inr ⟨g, c, cur, rfl, h1, h2, Nat.zero_le _, h4, h5, by rw [Nat.zero_mul]; rfl⟩⟩
/-- What is read of all lines. -/
def RlE (rb : Nat) (s : ByteArray) (w : World) (e : Ending) (w' : World) : Prop :=
  Below rb w w' ∧ match apAll (lnsR s) 0 (0, Ap.zero) with
  | .error n => e = .returned (.tuple #[.int .i64 (n : Int), .int .i64 131])
  | .ok (n, st) => if mayC st.1 8 = true then e = .returned (.tuple #[.int .i64 0, .int .i64 0]) ∧ ∃ t av, RsP rb w' t n st.1 st.2 n av else e = .returned (.tuple #[.int .i64 ((n + 1 : Nat) : Int), .int .i64 131])
/-- What stands ahead of a line. -/
structure RlI (rb : Nat) (s : ByteArray) (w : World) (v : Value) (t : ByteArray) (W : World) : Prop where
  bel : Below rb w W
  row : ∃ us : List ByteArray, us.length ≤ 16777216 ∧ W.ownsRow (rb + 1) 9 1 v us.length (us.map Value.string)
  rd : ∃ cnt next p, RsP rb W t cnt next p cnt v.ownBlock ∧ cnt + t.size ≤ s.size ∧ next ≤ 7 ∧ apAll (lnsR t) cnt (next, p) = apAll (lnsR s) 0 (0, Ap.zero)
def mzA (rb : Nat) (W : World) : Nat := match W.cell? ⟨rb, 0, none⟩ with
  | some (.string t) => t.size
  | _ => 0
theorem mzA_of {rb : Nat} {W : World} {t : ByteArray} (h : W.cell? ⟨rb, 0, none⟩ = some (.string t)) : mzA rb W = t.size := by unfold mzA; rw [h]
theorem wds_bd (s : ByteArray) : ∀ (n i : Nat), s.size - i = n → (wdsL s i).length ≤ s.size - i ∧ ∀ x ∈ wdsL s i, x.size ≤ s.size := by
  intro n
  induction n using Nat.strongRecOn with
  | _ n ih =>
    intro i hn
    rw [wdsL]
    by_cases h : fy bkA s i < s.size ∧ wrA (yb s (fy bkA s i)) = true
    · rw [dif_pos h]
      have a := fy_ge bkA s i
      have b := fy_go h.1 h.2
      have c := fy_ge wrA s (fy bkA s i + 1)
      obtain ⟨h1, h2⟩ := ih _ (by omega) (fy wrA s (fy bkA s i)) rfl
      refine ⟨by rw [List.length_cons]; omega, fun x hx => ?_⟩
      rcases List.mem_cons.1 hx with rfl | hx
      · rw [ByteArray.size_extract]; omega
      · exact h2 x hx
    · rw [dif_neg h]
      exact ⟨Nat.zero_le _, fun x hx => by cases hx⟩
/-- A list of texts beside the reader's own turns. -/
theorem RsP.words {rb : Nat} {W W' : World} {rest : ByteArray} {cnt next m : Nat} {av av' : Option Nat} {p : Ap} {v : Value} {n : Nat} {xs : List Value} (h : RsP rb W rest cnt next p m av) (hv : v.ownBlock = av) (o : W.ownsRow (rb + 1) 9 1 v n xs) (g : W.grownBy W' av) (k : av' = av ∨ ∀ z, av' = some z → W.heap.size ≤ z) : RsP rb W' rest cnt next p m av' := by
  obtain ⟨vn, vu, vp, vd, fn, fu, fp, D, hb, hl⟩ := h
  subst hv
  have nb : some rb ≠ v.ownBlock := fun e => by have := (o.lt rb e.symm).1; omega
  have far : ∀ {B s n : Nat} {E : TypeId} {x : Value} {xs : List Value}, W.ownsRow B E s x n xs → E ≠ 9 → W'.ownsRow B E s x n xs := fun {B s n E x xs} q ne => row_farP q g (fun k z e e2 => by
    rcases own_apQ q o ne with t | t
    · rw [t] at e2; cases e2
    · rintro rfl; exact t (e2.trans e.symm))
  have far' : ∀ {x : Value} {n : Nat} {xs : List Value}, W.ownsRow (rb + 1) 9 1 x n xs → (v.ownBlock = none ∨ x.ownBlock ≠ v.ownBlock) → W'.ownsRow (rb + 1) 9 1 x n xs := fun {x n xs} q ne => row_farP q g (fun k z e e2 => by
    rcases ne with t | t
    · rw [t] at e; cases e
    · rintro rfl; exact t (e2.trans e.symm))
  have nm : ∀ {b : Nat} {es : Array (Value × Value × Nat)} {c : Nat}, False → True := fun _ => trivial
  have mS : ∀ {x : Value} {f : ByteArray → Option Int}, MpqS W x f → MpqS W' x f := fun {x f} q => q.imp_right fun ⟨b, e, n, D, ⟨es, clock, hbk, F, hs, hD⟩, h2⟩ => ⟨b, e, n, D, ⟨es, clock, (g.block b (Array.getElem?_eq_some_iff.1 hbk).1 (fun e => by
    obtain ⟨c, fz, hz⟩ := own_kQ o b e.symm
    rw [hz] at hbk
    cases hbk)).trans hbk, F, hs, hD⟩, h2⟩
  have mZ : ∀ {x : Value} {f : Int → Option Int}, MpqZ W x f → MpqZ W' x f := fun {x f} q => q.imp_right fun ⟨b, e, n, D, ⟨es, clock, hbk, F, hs, hD⟩, h2⟩ => ⟨b, e, n, D, ⟨es, clock, (g.block b (Array.getElem?_eq_some_iff.1 hbk).1 (fun e => by
    obtain ⟨c, fz, hz⟩ := own_kQ o b e.symm
    rw [hz] at hbk
    cases hbk)).trans hbk, F, hs, hD⟩, h2⟩
  have av2 : ∀ {x : Value} {n : Nat} {xs : List Value}, W.ownsRow (rb + 1) 9 1 x n xs → (v.ownBlock = none ∨ x.ownBlock ≠ v.ownBlock) → av' = none ∨ x.ownBlock ≠ av' := fun {x n xs} q ne => by
    rcases k with rfl | k
    · exact ne
    · rcases av' with _ | z
      · exact .inl rfl
      · exact .inr (fun e => by have := (q.lt z e).2; have := k z rfl; omega)
  exact ⟨vn, vu, vp, vd, fn, fu, fp, D, hb.grown g nb, ⟨far' hl.on hl.an, far' hl.ou hl.au, far hl.op (by decide), far hl.od (by decide), fun i hi => far (hl.oc i hi) (by decide), hl.ap, mS hl.mn, mS hl.mu, mZ hl.mp, hl.days, hl.dl, hl.cl, Nat.lt_of_lt_of_le hl.sz g.size, av2 hl.on hl.an, av2 hl.ou hl.au, hl.nu⟩⟩
/-- A line's words, beside the reader. -/
theorem words_step {w W w2 : World} {rb cnt next m : Nat} {p : Ap} {t2 line : ByteArray} {v0 : Value} (RW : W.ownsRow (rb + 1) 9 1 v0 0 []) (R2 : RsP rb w2 t2 cnt next p m v0.ownBlock) (F2 : FrR rb W w2) (hrb : rb < W.heap.size) (BL : Below rb w W) (ls : line.size ≤ 16777216) :
    Calls Tryz.prog 33 #[v0, .string line] w2 fun e w3 => ∃ a c, e = .returned (.slice a (wdsL line 0).length c) ∧ w3.ownsRow (rb + 1) 9 1 (.slice a (wdsL line 0).length c) (wdsL line 0).length ((wdsL line 0).map Value.string) ∧ RsP rb w3 t2 cnt next p m (Value.slice a (wdsL line 0).length c).ownBlock ∧ Below rb w w3 := by
  have R0 := F2.own RW (by decide)
  refine (appendWords_any v0 [] line (rb + 1) w2 R0 (Nat.lt_of_lt_of_le hrb F2.size) ls (by simp)).mono ?_
  rintro e w3 ⟨v3, rfl, o3, g3, l3⟩
  rw [List.nil_append] at o3
  have R3 := R2.words rfl R0 g3 (l3.imp id (fun k z e => Nat.le_of_lt (k z e)))
  have B3 := (BL.trans (F2.bel (Nat.le_of_lt hrb))).grown g3 (Nat.le_trans (Nat.le_of_lt hrb) F2.size) (fun k e => Nat.le_of_lt (R0.lt k e).1)
  obtain ⟨a, c, rfl⟩ := own_slQ o3
  exact ⟨a, c, rfl, o3, R3, B3⟩
theorem lnsR_cons {t : ByteArray} (h : 0 < t.size) : lnsR t = t.extract 0 (fy lfA t 0) :: lnsR (t.extract (fy lfA t 0 + 1) t.size) := by rw [lnsR, dif_pos h]
theorem lnsR_nil {t : ByteArray} (h : t.size = 0) : lnsR t = [] := by rw [lnsR, dif_neg (by omega)]
theorem apLine_next {st st' : Nat × Ap} {w : ByteArray} {ws : List ByteArray} (h : apLine st w ws = some st') (k : st.1 ≤ 7) : st'.1 ≤ 7 := by
  unfold apLine at h
  split at h
  · split at h
    · obtain ⟨q, _, rfl⟩ := Option.map_eq_some_iff.1 h
      exact Nat.min_le_right _ _
    · cases h
  · split at h
    · cases h
    · obtain ⟨q, _, rfl⟩ := Option.map_eq_some_iff.1 h
      exact k
set_option maxRecDepth 100000 in
set_option maxHeartbeats 4000000 in
theorem readLines_any {w : World} {rb : Nat} {s : ByteArray} (hs : s.size ≤ 16777216) (h : RsP rb w s 0 0 Ap.zero 0 none) (hG : ∀ W, Below rb w W → GlA W) :
    Calls Tryz.prog 16 #[.pointer (some ⟨rb, 0, none⟩)] w fun e w' => RlE rb s w e w' := by
  have I0 : RlI rb s w (.slice none 0 0) s w := ⟨Below.refl _ _, ⟨[], by simp, World.ownsRow_nil _ _ _ _⟩, 0, 0, Ap.zero, h, by omega, by omega, rfl⟩
  have HG := Lib.hid hG
  have IO := Lib.hid I0
  clear h hG I0
  go_enter Tryz.func16, Tryz.ntmps16
  go_wp2
  refine wp_scope_jumps 0 (fun a' w' => ∃ (v : Value) (t : ByteArray) (u2 u3 u5 u6 u7 u8 u9 u10 u11 u12 u13 u14 u15 u16 u17 u18 u19 u20 u21 u22 u23 u24 u25 u26 u27 u28 u29 u30 u31 u32 u33 : Value), a' = { tmps := #[.pointer (some ⟨rb, 0, none⟩), undef, u2, u3, v, u5, u6, u7, u8, u9, u10, u11, u12, u13, u14, u15, u16, u17, u18, u19, u20, u21, u22, u23, u24, u25, u26, u27, u28, u29, u30, u31, u32, u33], defers := [] } ∧ RowKit.Hid (RlI rb s w v t w')) (fun _ W => mzA rb W) rfl ?_ ?_
  · go_wp2
    go_step3
    go_wp2
    have I1 := IO
    have TL := Lib.hid (p := s.size ≤ s.size) (Nat.le_refl _)
    go_loopw [4] (fun v' W => ∃ t', RowKit.Hid (RlI rb s w v' t' W) ∧ t'.size ≤ s.size) (fun _ W => mzA rb W)
    case atStart => exact ⟨_, I1, by first | exact Nat.le_refl _ | exact TL.out⟩
    case round =>
      obtain ⟨t', HI, ht⟩ := hrel
      rename World => W
      obtain ⟨⟨us, hus, hrow⟩, cnt, next, p, hrd, hcs, hn7, hap⟩ := And.intro HI.out.row HI.out.rd
      obtain ⟨⟨c0, _⟩, ⟨c1, _⟩, ⟨c2, _⟩, hrb⟩ := hrd.head
      have HAP := Lib.hid hap
      have HRD := Lib.hid hrd
      have BL := Lib.hid HI.out.bel
      have RB := Lib.hid (FrR.below (rb := rb) (Below.refl _ W))
      have rbl : rb ≤ W.heap.size := Nat.le_of_lt hrb
      clear hap hrd
      by_cases hz : t'.size = 0
      · obtain rfl : t' = ⟨#[]⟩ := ByteArray.size_eq_zero_iff.1 hz
        have HA := Lib.hid (p := apAll (lnsR s) 0 (0, Ap.zero) = .ok (cnt, (next, p))) (by rw [← HAP.out, lnsR_nil rfl]; rfl)
        have KM := Lib.hid (mayCome_any rb next 8 W c2 (by omega) (by omega) (HG.out W BL.out).ln)
        have e1 : IntKind.i64.wrap ((cnt : Int) + 1) = ((cnt + 1 : Nat) : Int) := by simp [IntKind.wrap, IntKind.bits, IntKind.signed]; omega
        cases hm : mayC next 8 with
        | true =>
          rw [hm] at KM
          have HM := Lib.hid hm
          clear hm hrow HI
          go_wp2_with (go_at_call 36; refine KM.out.mono ?_; rintro e w2 ⟨rfl, rfl⟩)
          try simp only [Exit.jump]
          go_ret2
          refine ⟨BL.out, ?_⟩
          rw [HA.out]
          simp only
          rw [if_pos HM.out]
          exact ⟨rfl, _, _, HRD.out⟩
        | false =>
          rw [hm] at KM
          have HM := Lib.hid hm
          clear hm hrow HI
          go_wp2_with (go_at_call 36; refine KM.out.mono ?_; rintro e w2 ⟨rfl, rfl⟩)
          try simp only [Exit.jump]
          go_ret2
          refine ⟨BL.out, ?_⟩
          rw [HA.out]
          simp only
          rw [if_neg (by rw [HM.out]; decide)]
          rfl
      · have hz0 : 0 < t'.size := by omega
        have hne : t'.toList.isEmpty = false := by
          rw [← Bool.not_eq_true]
          intro q
          exact hz (by rw [bytes_eq (a := t') (b := ⟨#[]⟩) (by simpa using q)]; rfl)
        have KC := Lib.hid (fun V (b : Below W.heap.size W V) => cutLine_any (HRD.out.later b) (by omega) (by omega))
        have HAL := Lib.hid (lnsR_cons hz0)
        have wb := wds_bd (t'.extract 0 (fy lfA t' 0)) _ 0 rfl
        have ls : (t'.extract 0 (fy lfA t' 0)).size ≤ 16777216 := by rw [ByteArray.size_extract]; omega
        have ts : (t'.extract (fy lfA t' 0 + 1) t'.size).size + 1 ≤ t'.size := by rw [ByteArray.size_extract]; omega
        have MZ := Lib.hid (p := mzA rb W = t'.size) (mzA_of c0)
        obtain ⟨line, hline⟩ : ∃ x, t'.extract 0 (fy lfA t' 0) = x := ⟨_, rfl⟩
        obtain ⟨t2, ht2⟩ : ∃ x, t'.extract (fy lfA t' 0 + 1) t'.size = x := ⟨_, rfl⟩
        rw [hline] at KC HAL wb ls
        rw [ht2] at KC HAL ts
        have WB := Lib.hid wb
        have AP := Lib.hid (p := apAll (lnsR s) 0 (0, Ap.zero) = match wdsL line 0 with
          | [] => apAll (lnsR t2) (cnt + 1) (next, p)
          | x :: xs => match apLine (next, p) x xs with
            | none => .error (cnt + 1)
            | some st' => apAll (lnsR t2) (cnt + 1) st') (by rw [← HAP.out, HAL.out]; rfl)
        have D9 := Lib.hid (p := Below W.heap.size W W.drew) (Below.refl _ W).drew
        have S1 := Lib.hid (p := cnt + 1 + t2.size ≤ s.size) (by omega)
        have T1 := Lib.hid (p := t2.size < t'.size) (by omega)
        have CN := Lib.hid (p := cnt ≤ 16777216) (by omega)
        have LS := Lib.hid ls
        have T2 := Lib.hid (p := t2.size ≤ s.size) (by omega)
        have T3 := Lib.hid (p := t'.size ≤ s.size) ht
        have RBL := Lib.hid (p := rb < W.heap.size) hrb
        have N7 := Lib.hid hn7
        clear hline ht2 wb HAP HAL ls ts c1 c2
        rcases hrow.2 with ⟨rfl, hn0⟩ | ⟨g, cap, cur, rfl, hgb, hgg, hr⟩
        all_goals
          have RW := Lib.hid (own_cutQ hrow)
          have KA := Lib.hid (fun w2 (r : RsP rb w2 t2 (cnt + 1) next p cnt _) (f : FrR rb W w2) => words_step (line := line) RW.out r f RBL.out BL.out LS.out)
          clear hrow HI
          cases hw : wdsL line 0 with
          | nil =>
            have NX := Lib.hid (p := apAll (lnsR s) 0 (0, Ap.zero) = apAll (lnsR t2) (cnt + 1) (next, p)) (by rw [AP.out, hw])
            simp only [hw, List.length_nil, List.map_nil] at KA
            clear hw AP
            go_wp2
            go_region_law (first
              | (go_simp; go_at_call 34; refine (KC.out _ D9.out).mono ?_; rintro e w2 ⟨rfl, r2, f2⟩; have R2 := Lib.hid r2; have F2 := Lib.hid ((FrR.below (rb := rb) D9.out).trans f2); clear r2 f2)
              | (go_simp; go_at_call 33; refine (KA.out w2 R2.out F2.out).mono ?_; rintro e w3 ⟨a3, c3, rfl, o3, r3, b3⟩; have O3 := Lib.hid o3; have R3 := Lib.hid r3; have B3 := Lib.hid b3; clear o3 r3 b3))
            all_goals
              have IN := Lib.hid (p := RlI rb s w (.slice a3 0 c3) t2 w3) ⟨B3.out, ⟨[], by simp, O3.out⟩, cnt + 1, next, p, R3.out.more (Nat.le_succ cnt), S1.out, N7.out, NX.out.symm⟩
              have M3 := Lib.hid (p := mzA rb w3 < s.size) (by rw [mzA_of R3.out.head.1.1]; exact Nat.lt_of_lt_of_le T1.out T3.out)
              go_wp2
              go_step3
              refine And.intro (rfl : 0 = 0) ?_
              first
                | exact ⟨_, _, _, _, _, _, _, _, _, _, _, _, _, _, _, _, _, _, _, _, _, _, _, _, _, _, _, _, _, _, _, _, _, rfl, IN⟩
                | exact ⟨⟨_, _, _, _, _, _, _, _, _, _, _, _, _, _, _, _, _, _, _, _, _, _, _, _, _, _, _, _, _, _, _, _, _, rfl, IN⟩, M3.out⟩
          | cons w0 ws =>
            have NX := Lib.hid (p := apAll (lnsR s) 0 (0, Ap.zero) = match apLine (next, p) w0 ws with
              | none => .error (cnt + 1)
              | some st' => apAll (lnsR t2) (cnt + 1) st') (by rw [AP.out, hw])
            have WBc := Lib.hid (p := ws.length + 1 ≤ 16777216 ∧ ∀ x ∈ w0 :: ws, x.size ≤ 16777216) (by
              have z := WB.out
              rw [hw] at z
              have l := LS.out
              exact ⟨by have := z.1; simp only [List.length_cons] at this; omega, fun x hx => Nat.le_trans (z.2 x hx) l⟩)
            simp only [hw, List.length_cons, List.map_cons] at KA
            have KT := Lib.hid (fun (w3 : World) (g4 c4 : Nat) (o : w3.ownsRow (rb + 1) 9 1 (.slice (some ⟨g4, 0, none⟩) (ws.length + 1) c4) (ws.length + 1) (Value.string w0 :: ws.map Value.string)) (r : RsP rb w3 t2 (cnt + 1) next p cnt (some g4)) (b : Below rb w w3) =>
              takeL_any r (fun z e => (o.lt z e).2) (own_sr (ss := w0 :: ws) o (by have := WBc.out.1; simp only [List.length_cons]; omega) (fun x hx => Nat.le_trans (WBc.out.2 x hx) (by omega))) (by have := (o.lt g4 rfl).1; omega) WBc.out.1 WBc.out.2 (fun V c => HG.out V (b.trans c)) CN.out N7.out)
            clear hw AP
            cases hO : apLine (next, p) w0 ws with
            | none =>
              rw [hO] at NX
              simp only [hO, List.length_cons] at KT
              clear hO
              go_wp2
              go_region_law (first
                | (go_simp; go_at_call 34; refine (KC.out _ D9.out).mono ?_; rintro e w2 ⟨rfl, r2, f2⟩; have R2 := Lib.hid r2; have F2 := Lib.hid ((FrR.below (rb := rb) D9.out).trans f2); clear r2 f2)
                | (go_simp; go_at_call 33; refine (KA.out w2 R2.out F2.out).mono ?_; rintro e w3 ⟨a3, c3, rfl, o3, r3, b3⟩; obtain ⟨g4, c4, e4⟩ := own_formQ o3 (Nat.succ_pos _); injection e4 with e5 _ e6; subst e5 e6; have O3 := Lib.hid o3; have R3 := Lib.hid r3; have B3 := Lib.hid b3; have KT3 := Lib.hid (KT.out w3 g4 c3 o3 r3 b3); clear o3 r3 b3))
              all_goals
                go_wp2_with (go_at_call 35; refine KT3.out.mono ?_; rintro e w4 ⟨rfl, ⟨f4, c4'⟩, r4⟩; have F4 := Lib.hid f4; clear f4 r4)
                try simp only [Exit.jump]
                go_ret2
                refine ⟨B3.out.trans (F4.out.bel (Nat.le_of_lt R3.out.head.2.2.2)), ?_⟩
                rw [NX.out]
                rfl
            | some st' =>
              obtain ⟨nx, q⟩ := st'
              have N8 := Lib.hid (apLine_next hO N7.out)
              rw [hO] at NX
              simp only [hO, List.length_cons] at KT
              clear hO
              go_wp2
              go_region_law (first
                | (go_simp; go_at_call 34; refine (KC.out _ D9.out).mono ?_; rintro e w2 ⟨rfl, r2, f2⟩; have R2 := Lib.hid r2; have F2 := Lib.hid ((FrR.below (rb := rb) D9.out).trans f2); clear r2 f2)
                | (go_simp; go_at_call 33; refine (KA.out w2 R2.out F2.out).mono ?_; rintro e w3 ⟨a3, c3, rfl, o3, r3, b3⟩; obtain ⟨g4, c4, e4⟩ := own_formQ o3 (Nat.succ_pos _); injection e4 with e5 _ e6; subst e5 e6; have O3 := Lib.hid o3; have R3 := Lib.hid r3; have B3 := Lib.hid b3; have KT3 := Lib.hid (KT.out w3 g4 c3 o3 r3 b3); clear o3 r3 b3))
              all_goals
                go_wp2_with (go_at_call 35; refine KT3.out.mono ?_; rintro e w4 ⟨rfl, ⟨f4, c4'⟩, r4⟩; have F4 := Lib.hid f4; have R4 := Lib.hid (r4 _ rfl); clear f4 r4 c4')
                go_roundw
                case rel => exact ⟨t2, ⟨B3.out.trans (F4.out.bel (Nat.le_of_lt R3.out.head.2.2.2)), ⟨w0 :: ws, WBc.out.1, F4.out.own O3.out (by decide)⟩, cnt + 1, nx, q, R4.out, S1.out, N8.out, NX.out.symm⟩, T2.out⟩
                case measure => rw [MZ.out, mzA_of R4.out.head.1.1]; exact T1.out
  · rintro a1 w1 ⟨v, t, u2, u3, u5, u6, u7, u8, u9, u10, u11, u12, u13, u14, u15, u16, u17, u18, u19, u20, u21, u22, u23, u24, u25, u26, u27, u28, u29, u30, u31, u32, u33, rfl, I1⟩
    have TL := Lib.hid (p := t.size ≤ mzA rb w1) (by obtain ⟨_, _, _, q, _⟩ := I1.out.rd; rw [mzA_of q.head.1.1]; exact Nat.le_refl _)
    go_wp2
    go_loopw [4] (fun v' W => ∃ t', RowKit.Hid (RlI rb s w v' t' W) ∧ t'.size ≤ mzA rb w1) (fun _ W => mzA rb W)
    case atStart => exact ⟨_, I1, by first | exact Nat.le_refl _ | exact TL.out⟩
    case round =>
      obtain ⟨t', HI, ht⟩ := hrel
      rename World => W
      obtain ⟨⟨us, hus, hrow⟩, cnt, next, p, hrd, hcs, hn7, hap⟩ := And.intro HI.out.row HI.out.rd
      obtain ⟨⟨c0, _⟩, ⟨c1, _⟩, ⟨c2, _⟩, hrb⟩ := hrd.head
      have HAP := Lib.hid hap
      have HRD := Lib.hid hrd
      have BL := Lib.hid HI.out.bel
      have RB := Lib.hid (FrR.below (rb := rb) (Below.refl _ W))
      have rbl : rb ≤ W.heap.size := Nat.le_of_lt hrb
      clear hap hrd
      by_cases hz : t'.size = 0
      · obtain rfl : t' = ⟨#[]⟩ := ByteArray.size_eq_zero_iff.1 hz
        have HA := Lib.hid (p := apAll (lnsR s) 0 (0, Ap.zero) = .ok (cnt, (next, p))) (by rw [← HAP.out, lnsR_nil rfl]; rfl)
        have KM := Lib.hid (mayCome_any rb next 8 W c2 (by omega) (by omega) (HG.out W BL.out).ln)
        have e1 : IntKind.i64.wrap ((cnt : Int) + 1) = ((cnt + 1 : Nat) : Int) := by simp [IntKind.wrap, IntKind.bits, IntKind.signed]; omega
        cases hm : mayC next 8 with
        | true =>
          rw [hm] at KM
          have HM := Lib.hid hm
          clear hm hrow HI
          go_wp2_with (go_at_call 36; refine KM.out.mono ?_; rintro e w2 ⟨rfl, rfl⟩)
          try simp only [Exit.jump]
          go_ret2
          refine ⟨BL.out, ?_⟩
          rw [HA.out]
          simp only
          rw [if_pos HM.out]
          exact ⟨rfl, _, _, HRD.out⟩
        | false =>
          rw [hm] at KM
          have HM := Lib.hid hm
          clear hm hrow HI
          go_wp2_with (go_at_call 36; refine KM.out.mono ?_; rintro e w2 ⟨rfl, rfl⟩)
          try simp only [Exit.jump]
          go_ret2
          refine ⟨BL.out, ?_⟩
          rw [HA.out]
          simp only
          rw [if_neg (by rw [HM.out]; decide)]
          rfl
      · have hz0 : 0 < t'.size := by omega
        have hne : t'.toList.isEmpty = false := by
          rw [← Bool.not_eq_true]
          intro q
          exact hz (by rw [bytes_eq (a := t') (b := ⟨#[]⟩) (by simpa using q)]; rfl)
        have KC := Lib.hid (fun V (b : Below W.heap.size W V) => cutLine_any (HRD.out.later b) (by omega) (by omega))
        have HAL := Lib.hid (lnsR_cons hz0)
        have wb := wds_bd (t'.extract 0 (fy lfA t' 0)) _ 0 rfl
        have ls : (t'.extract 0 (fy lfA t' 0)).size ≤ 16777216 := by rw [ByteArray.size_extract]; omega
        have ts : (t'.extract (fy lfA t' 0 + 1) t'.size).size + 1 ≤ t'.size := by rw [ByteArray.size_extract]; omega
        have MZ := Lib.hid (p := mzA rb W = t'.size) (mzA_of c0)
        obtain ⟨line, hline⟩ : ∃ x, t'.extract 0 (fy lfA t' 0) = x := ⟨_, rfl⟩
        obtain ⟨t2, ht2⟩ : ∃ x, t'.extract (fy lfA t' 0 + 1) t'.size = x := ⟨_, rfl⟩
        rw [hline] at KC HAL wb ls
        rw [ht2] at KC HAL ts
        have WB := Lib.hid wb
        have AP := Lib.hid (p := apAll (lnsR s) 0 (0, Ap.zero) = match wdsL line 0 with
          | [] => apAll (lnsR t2) (cnt + 1) (next, p)
          | x :: xs => match apLine (next, p) x xs with
            | none => .error (cnt + 1)
            | some st' => apAll (lnsR t2) (cnt + 1) st') (by rw [← HAP.out, HAL.out]; rfl)
        have D9 := Lib.hid (p := Below W.heap.size W W.drew) (Below.refl _ W).drew
        have S1 := Lib.hid (p := cnt + 1 + t2.size ≤ s.size) (by omega)
        have T1 := Lib.hid (p := t2.size < t'.size) (by omega)
        have CN := Lib.hid (p := cnt ≤ 16777216) (by omega)
        have LS := Lib.hid ls
        have T2 := Lib.hid (p := t2.size ≤ mzA rb w1) (by omega)
        have T3 := Lib.hid (p := t'.size ≤ mzA rb w1) ht
        have RBL := Lib.hid (p := rb < W.heap.size) hrb
        have N7 := Lib.hid hn7
        clear hline ht2 wb HAP HAL ls ts c1 c2
        rcases hrow.2 with ⟨rfl, hn0⟩ | ⟨g, cap, cur, rfl, hgb, hgg, hr⟩
        all_goals
          have RW := Lib.hid (own_cutQ hrow)
          have KA := Lib.hid (fun w2 (r : RsP rb w2 t2 (cnt + 1) next p cnt _) (f : FrR rb W w2) => words_step (line := line) RW.out r f RBL.out BL.out LS.out)
          clear hrow HI
          cases hw : wdsL line 0 with
          | nil =>
            have NX := Lib.hid (p := apAll (lnsR s) 0 (0, Ap.zero) = apAll (lnsR t2) (cnt + 1) (next, p)) (by rw [AP.out, hw])
            simp only [hw, List.length_nil, List.map_nil] at KA
            clear hw AP
            go_wp2
            go_region_law (first
              | (go_simp; go_at_call 34; refine (KC.out _ D9.out).mono ?_; rintro e w2 ⟨rfl, r2, f2⟩; have R2 := Lib.hid r2; have F2 := Lib.hid ((FrR.below (rb := rb) D9.out).trans f2); clear r2 f2)
              | (go_simp; go_at_call 33; refine (KA.out w2 R2.out F2.out).mono ?_; rintro e w3 ⟨a3, c3, rfl, o3, r3, b3⟩; have O3 := Lib.hid o3; have R3 := Lib.hid r3; have B3 := Lib.hid b3; clear o3 r3 b3))
            all_goals
              have IN := Lib.hid (p := RlI rb s w (.slice a3 0 c3) t2 w3) ⟨B3.out, ⟨[], by simp, O3.out⟩, cnt + 1, next, p, R3.out.more (Nat.le_succ cnt), S1.out, N7.out, NX.out.symm⟩
              have M3 := Lib.hid (p := mzA rb w3 < mzA rb w1) (by rw [mzA_of R3.out.head.1.1]; exact Nat.lt_of_lt_of_le T1.out T3.out)
              go_wp2
              go_step3
              refine And.intro (rfl : 0 = 0) ?_
              first
                | exact ⟨_, _, _, _, _, _, _, _, _, _, _, _, _, _, _, _, _, _, _, _, _, _, _, _, _, _, _, _, _, _, _, _, _, rfl, IN⟩
                | exact ⟨⟨_, _, _, _, _, _, _, _, _, _, _, _, _, _, _, _, _, _, _, _, _, _, _, _, _, _, _, _, _, _, _, _, _, rfl, IN⟩, M3.out⟩
          | cons w0 ws =>
            have NX := Lib.hid (p := apAll (lnsR s) 0 (0, Ap.zero) = match apLine (next, p) w0 ws with
              | none => .error (cnt + 1)
              | some st' => apAll (lnsR t2) (cnt + 1) st') (by rw [AP.out, hw])
            have WBc := Lib.hid (p := ws.length + 1 ≤ 16777216 ∧ ∀ x ∈ w0 :: ws, x.size ≤ 16777216) (by
              have z := WB.out
              rw [hw] at z
              have l := LS.out
              exact ⟨by have := z.1; simp only [List.length_cons] at this; omega, fun x hx => Nat.le_trans (z.2 x hx) l⟩)
            simp only [hw, List.length_cons, List.map_cons] at KA
            have KT := Lib.hid (fun (w3 : World) (g4 c4 : Nat) (o : w3.ownsRow (rb + 1) 9 1 (.slice (some ⟨g4, 0, none⟩) (ws.length + 1) c4) (ws.length + 1) (Value.string w0 :: ws.map Value.string)) (r : RsP rb w3 t2 (cnt + 1) next p cnt (some g4)) (b : Below rb w w3) =>
              takeL_any r (fun z e => (o.lt z e).2) (own_sr (ss := w0 :: ws) o (by have := WBc.out.1; simp only [List.length_cons]; omega) (fun x hx => Nat.le_trans (WBc.out.2 x hx) (by omega))) (by have := (o.lt g4 rfl).1; omega) WBc.out.1 WBc.out.2 (fun V c => HG.out V (b.trans c)) CN.out N7.out)
            clear hw AP
            cases hO : apLine (next, p) w0 ws with
            | none =>
              rw [hO] at NX
              simp only [hO, List.length_cons] at KT
              clear hO
              go_wp2
              go_region_law (first
                | (go_simp; go_at_call 34; refine (KC.out _ D9.out).mono ?_; rintro e w2 ⟨rfl, r2, f2⟩; have R2 := Lib.hid r2; have F2 := Lib.hid ((FrR.below (rb := rb) D9.out).trans f2); clear r2 f2)
                | (go_simp; go_at_call 33; refine (KA.out w2 R2.out F2.out).mono ?_; rintro e w3 ⟨a3, c3, rfl, o3, r3, b3⟩; obtain ⟨g4, c4, e4⟩ := own_formQ o3 (Nat.succ_pos _); injection e4 with e5 _ e6; subst e5 e6; have O3 := Lib.hid o3; have R3 := Lib.hid r3; have B3 := Lib.hid b3; have KT3 := Lib.hid (KT.out w3 g4 c3 o3 r3 b3); clear o3 r3 b3))
              all_goals
                go_wp2_with (go_at_call 35; refine KT3.out.mono ?_; rintro e w4 ⟨rfl, ⟨f4, c4'⟩, r4⟩; have F4 := Lib.hid f4; clear f4 r4)
                try simp only [Exit.jump]
                go_ret2
                refine ⟨B3.out.trans (F4.out.bel (Nat.le_of_lt R3.out.head.2.2.2)), ?_⟩
                rw [NX.out]
                rfl
            | some st' =>
              obtain ⟨nx, q⟩ := st'
              have N8 := Lib.hid (apLine_next hO N7.out)
              rw [hO] at NX
              simp only [hO, List.length_cons] at KT
              clear hO
              go_wp2
              go_region_law (first
                | (go_simp; go_at_call 34; refine (KC.out _ D9.out).mono ?_; rintro e w2 ⟨rfl, r2, f2⟩; have R2 := Lib.hid r2; have F2 := Lib.hid ((FrR.below (rb := rb) D9.out).trans f2); clear r2 f2)
                | (go_simp; go_at_call 33; refine (KA.out w2 R2.out F2.out).mono ?_; rintro e w3 ⟨a3, c3, rfl, o3, r3, b3⟩; obtain ⟨g4, c4, e4⟩ := own_formQ o3 (Nat.succ_pos _); injection e4 with e5 _ e6; subst e5 e6; have O3 := Lib.hid o3; have R3 := Lib.hid r3; have B3 := Lib.hid b3; have KT3 := Lib.hid (KT.out w3 g4 c3 o3 r3 b3); clear o3 r3 b3))
              all_goals
                go_wp2_with (go_at_call 35; refine KT3.out.mono ?_; rintro e w4 ⟨rfl, ⟨f4, c4'⟩, r4⟩; have F4 := Lib.hid f4; have R4 := Lib.hid (r4 _ rfl); clear f4 r4 c4')
                go_roundw
                case rel => exact ⟨t2, ⟨B3.out.trans (F4.out.bel (Nat.le_of_lt R3.out.head.2.2.2)), ⟨w0 :: ws, WBc.out.1, F4.out.own O3.out (by decide)⟩, cnt + 1, nx, q, R4.out, S1.out, N8.out, NX.out.symm⟩, T2.out⟩
                case measure => rw [MZ.out, mzA_of R4.out.head.1.1]; exact T1.out
end Go.Proofs.YtccjeipkljdhdaaGreatDoor
