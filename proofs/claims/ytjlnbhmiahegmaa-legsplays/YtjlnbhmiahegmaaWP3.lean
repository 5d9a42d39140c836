/-
  WALKS: legs: the steps around an action (pass, turn).
-/
import Derived.Test.YtjlnbhmiahegmaaWP2
import Derived.Test.YtjlnbhmiahegmaaWXV78
namespace Go.Proofs.Ytjlnbhmiahegmaa
open Go.RowKit
set_option linter.unusedVariables false
set_option linter.unusedSimpArgs false

theorem make_is0 (W : World) (n : Nat) (hn : n ≤ 17592186043904) : (Instr.makeSlice 26 (.int .i64 (n : Int)) (.int .i64 (n : Int))).run Try.prog W = .ok (.slice (some ⟨W.heap.size, 0, none⟩) n n) (W.alloc (.cells (madeCells #[.int .i64 0] n) 3)) := by
  obtain ⟨i0, hi, hz0, hz1, hz2⟩ := info_parts infoI
  have := run_make (P := Try.prog) W 26 3 i0 _ Try.underlying26 hi hz0 .i64 .i64 (n : Int) (n : Int) (by omega) (by omega) (by rw [hz2]; omega) (by omega)
  rw [hz1] at this
  simpa [Value.cells] using this
/-- The factors, each at its step's place. -/
def FB (w : World) (fb : Nat) (R : List (List Cl)) (C : List Int) (ss : List St) (k : Nat) : Prop := ∃ cur, Bk w fb cur 3 ∧ cur.size = ss.length ∧ ∀ i, i < k → (ss.getD i default).kind = 2 → cur[i]? = some (.int .i64 ((ss.getD i default).e.val R C).1)
theorem FB.later {w w' : World} {fb : Nat} {R : List (List Cl)} {C : List Int} {ss : List St} {k : Nat} (h : FB w fb R C ss k) (b : Below w.heap.size w w') : FB w' fb R C ss k := by
  obtain ⟨cur, h1, h2⟩ := h; exact ⟨cur, h1.below b h1.lt, h2⟩
theorem FB.skip {w : World} {fb : Nat} {R : List (List Cl)} {C : List Int} {ss : List St} {k : Nat} (h : FB w fb R C ss k) (hk : ¬ (ss.getD k default).kind = 2) : FB w fb R C ss (k + 1) := by
  obtain ⟨cur, h1, h2, h3⟩ := h
  refine ⟨cur, h1, h2, fun i hi q => ?_⟩
  by_cases e : i = k
  · subst e; exact absurd q hk
  · exact h3 i (by omega) q
theorem FB.put {w : World} {fb : Nat} {R : List (List Cl)} {C : List Int} {ss : List St} {k : Nat} (h : FB w fb R C ss k) (hk : k < ss.length) {v : Int} (hv : ((ss.getD k default).e.val R C).1 = v) : FB (w.setCell ⟨fb, k, none⟩ (.int .i64 v)) fb R C ss (k + 1) := by
  obtain ⟨cur, h1, h2, h3⟩ := h
  have s1 : k < cur.size := by omega
  refine ⟨cur.set k (.int .i64 v) s1, h1.set k _ s1, by simpa using h2, fun i hi q => ?_⟩
  by_cases e : i = k
  · subst e; rw [hv]; simp [s1]
  · rw [Array.getElem?_set_ne _ (fun q => e q.symm)]; exact h3 i (by omega) q
theorem EvE.dead {r : Int × Int} {e : Ending} (h : EvE r e) (z : ¬ r.2 = 0) : (e = .returned (.int .i64 0) ∧ RowKit.Hid False) ∨ e = pnc r.2 := .inr (h.bad z).1
/-- What pass ends with. -/
def PasE (R : List (List Cl)) (C : List Int) (ss : List St) (e : Ending) (w' : World) : Prop :=
  (¬ (passF R C ss).1 = 0 ∧ e = pnc (passF R C ss).1) ∨ ((passF R C ss) = (0, false) ∧ e = .returned (.tuple #[.slice none 0 0, .bool false])) ∨
  ((passF R C ss) = (0, true) ∧ ∃ fb, e = .returned (.tuple #[.slice (some ⟨fb, 0, none⟩) ss.length ss.length, .bool true]) ∧ FB w' fb R C ss ss.length)
set_option maxRecDepth 100000 in
set_option maxHeartbeats 2000000 in
theorem pass_any {w0 w : World} {sa : Option Addr} {sc : Nat} {ss : List St} (hS : SL w0 sa ss) (hB : Below w0.heap.size w0 w) {wp : Nat} {ra ca : Option Addr} {rn rc cn cc : Nat} {rs : List Rw} {C : List Int} (hW : WS w wp ra ca rn rc cn cc rs C)
    (hR : ∀ r ∈ Rws rs, ∀ c ∈ r, inR c.v) (hN : ∀ s ∈ ss, s.e.n ≤ 1048576) (hK : ∀ i, i < ss.length → okK (ss.getD i default).kind) :
    Calls Try.prog 65 #[.pointer (some ⟨wp, 0, none⟩), .slice sa ss.length sc] w fun e w' => PasE (Rws rs) C ss e w' ∧ Below w.heap.size w w' := by
  have hn : ss.length ≤ 2199023255488 := hS.1
  have MK := fun W => make_is0 W ss.length (by omega)
  obtain ⟨w1, hw1⟩ : ∃ w1, w.alloc (.cells (madeCells #[.int .i64 0] ss.length) 3) = w1 := ⟨_, rfl⟩
  have X1 := Lib.hid (show Below w.heap.size w w1 ∧ FB w1 w.heap.size (Rws rs) C ss 0 by
    subst hw1
    exact ⟨(Below.refl _ _).alloc (Nat.le_refl _) _, _, Bk.new _ _ _, by simp [madeCells], fun i hi => absurd hi (by omega)⟩)
  have HW1 := Lib.hid hw1
  have HS := Lib.hid hS
  have HB := Lib.hid hB
  have HW := Lib.hid hW
  have HK := Lib.hid hK
  have HR := Lib.hid hR
  have HN := Lib.hid (show ∀ i, i < ss.length → (ss.getD i default).e.n ≤ 1048576 from fun i hi => hN _ (by rw [show ss.getD i default = ss[i] by simp [List.getD, hi]]; exact List.getElem_mem hi))
  clear hw1 hS hB hW hK hR hN
  obtain ⟨n, hnn⟩ : ∃ n, ss.length = n := ⟨_, rfl⟩
  have HL := Lib.hid hnn
  rw [hnn] at MK HW1 hn ⊢
  clear hnn
  go_enter Try.func65, Try.ntmps65
  go_wp2
  rw [HW1.out]
  clear HW1 MK
  go_loopw [13] (fun t wr => ∃ (i : Nat), i ≤ n ∧ t = .int .i64 i ∧ RowKit.Hid (∀ j, j < i → okS (Rws rs) C (ss.getD j default)) ∧ FB wr w.heap.size (Rws rs) C ss i ∧ Below w.heap.size w wr) (fun t _ => n - (intOf t).toNat)
  case atStart => exact ⟨0, by omega, rfl, fun j hj => absurd hj (by omega), X1.out.2, X1.out.1⟩
  case round =>
    clear X1
    obtain ⟨i, hi, rfl, HO, hF, hBl⟩ := hrel
    have HF := Lib.hid hF
    have HBl := Lib.hid hBl
    clear hF hBl
    by_cases il : i < n
    · have ic : (i : Int) < (n : Int) := by omega
      have il' : i < ss.length := by rw [HL.out]; exact il
      obtain ⟨b, o, hsa, hb, hat⟩ := HS.out.at (by omega)
      subst hsa
      obtain ⟨hsv, hsc⟩ := hat i il'
      have BWR := Lib.hid (HB.out.trans (HBl.out.mono HB.out.size))
      have hb2 : b < wr.heap.size := Nat.lt_of_lt_of_le hb BWR.out.size
      have SCR := Lib.hid (hsc.later BWR.out hb)
      have KV := Lib.hid (fun W (b' : Below wr.heap.size wr W) => value_any (wp := wp) hsv.2 HR.out (HW.out.il.2.2.1) (HN.out i il') W b (o + i * 6 + 2) (BWR.out.trans (b'.mono BWR.out.size)) ((HW.out.later HBl.out).later b') (fun j hj => (b'.cell (p := ⟨b, o + i * 6 + 2 + j, none⟩) hb2).trans (SCR.out.x j hj)))
      have d0 := SCR.out.kind
      have dw := SCR.out.want
      have OKI := Lib.hid (HK.out i il')
      clear hat hsv hsc
      have NX := Lib.hid (show okS (Rws rs) C (ss.getD i default) → ∀ j, j < i + 1 → okS (Rws rs) C (ss.getD j default) from fun h j hj => by
        by_cases e : j = i
        · rw [e]; exact h
        · exact HO.out j (by omega))
      have BAD := Lib.hid (show ¬ okS (Rws rs) C (ss.getD i default) → passF (Rws rs) C ss = (((ss.getD i default).e.val (Rws rs) C).2, false) from fun h => passF_bad ss i il' HO.out h)
      obtain ⟨⟨vv, ff⟩, hv⟩ : ∃ r, (ss.getD i default).e.val (Rws rs) C = r := ⟨_, rfl⟩
      rw [hv] at KV BAD
      have HV := Lib.hid hv
      obtain ⟨wt, hwt⟩ : ∃ b, (ss.getD i default).want = b := ⟨_, rfl⟩
      rw [hwt] at dw
      have HWT := Lib.hid hwt
      obtain ⟨kd, hkd⟩ : ∃ k, (ss.getD i default).kind = k := ⟨_, rfl⟩
      rw [hkd] at d0 OKI
      have HKD := Lib.hid hkd
      clear hv hwt hkd
      have ok := OKI.out
      rcases ok with rfl | rfl | rfl
      · -- a test
        by_cases z : ff = 0
        · subst z
          have TS := Lib.hid (show decide (¬ vv = 0) = wt → ∀ j, j < i + 1 → okS (Rws rs) C (ss.getD j default) from fun t => NX.out (.inr ⟨by rw [HV.out], fun _ => by rw [HV.out, HWT.out]; exact t⟩))
          have TN := Lib.hid (show ¬ decide (¬ vv = 0) = wt → passF (Rws rs) C ss = (0, false) from fun t => BAD.out (fun h => by
              rcases h with h | h
              · rw [HKD.out] at h; omega
              · have := h.2 HKD.out; rw [HV.out, HWT.out] at this; exact t this))
          clear HV HWT NX BAD SCR
          by_cases q : vv = 0
          · subst q
            cases wt
            · have OK := Lib.hid (TS.out (by decide))
              go_wp2_with fail
              go_region_held3 (fun w' => w'.cell? ⟨b, o + i * 6 + 1, none⟩ = some (.bool false)) (first | assumption | (go_simp; done))
                (first | (go_at_call 27; refine (KV.out _ (Below.refl _ _).drew).mono ?_; rintro e w2 ⟨he, b2⟩; have B2 := Lib.hid (show Below wr.heap.size wr w2 from (Below.refl _ _).drew.trans b2); have u1 := (B2.out.cell (p := ⟨b, o + i * 6 + 1, none⟩) hb2).trans dw; have he' := he.ok rfl; subst he'; clear b2 he))
              all_goals go_wp2
              all_goals
                go_roundw
                case rel => exact ⟨i + 1, by omega, by go_num, OK.out, ((HF.out.later B2.out).skip (by rw [HKD.out]; omega)), HBl.out.trans (B2.out.mono HBl.out.size)⟩
                case measure => simp [intOf]; omega
            · have PF := Lib.hid (TN.out (by decide))
              go_wp2_with fail
              go_region_held3 (fun w' => w'.cell? ⟨b, o + i * 6 + 1, none⟩ = some (.bool true)) (first | assumption | (go_simp; done))
                (first | (go_at_call 27; refine (KV.out _ (Below.refl _ _).drew).mono ?_; rintro e w2 ⟨he, b2⟩; have B2 := Lib.hid (show Below wr.heap.size wr w2 from (Below.refl _ _).drew.trans b2); have u1 := (B2.out.cell (p := ⟨b, o + i * 6 + 1, none⟩) hb2).trans dw; have he' := he.ok rfl; subst he'; clear b2 he))
              all_goals go_wp2
              all_goals go_ret2
              all_goals exact ⟨.inr (.inl ⟨PF.out, rfl⟩), HBl.out.trans (B2.out.mono HBl.out.size)⟩
          · have m1 : (vv != 0) = true := by simpa using q
            have m2 : (vv == 0) = false := by simpa using q
            cases wt
            · have PF := Lib.hid (TN.out (by simp [q]))
              go_wp2_with fail
              go_region_held3 (fun w' => w'.cell? ⟨b, o + i * 6 + 1, none⟩ = some (.bool false)) (first | assumption | (go_simp; done))
                (first | (go_at_call 27; refine (KV.out _ (Below.refl _ _).drew).mono ?_; rintro e w2 ⟨he, b2⟩; have B2 := Lib.hid (show Below wr.heap.size wr w2 from (Below.refl _ _).drew.trans b2); have u1 := (B2.out.cell (p := ⟨b, o + i * 6 + 1, none⟩) hb2).trans dw; have he' := he.ok rfl; subst he'; clear b2 he))
              all_goals go_wp2
              all_goals go_ret2
              all_goals exact ⟨.inr (.inl ⟨PF.out, rfl⟩), HBl.out.trans (B2.out.mono HBl.out.size)⟩
            · have OK := Lib.hid (TS.out (by simp [q]))
              go_wp2_with fail
              go_region_held3 (fun w' => w'.cell? ⟨b, o + i * 6 + 1, none⟩ = some (.bool true)) (first | assumption | (go_simp; done))
                (first | (go_at_call 27; refine (KV.out _ (Below.refl _ _).drew).mono ?_; rintro e w2 ⟨he, b2⟩; have B2 := Lib.hid (show Below wr.heap.size wr w2 from (Below.refl _ _).drew.trans b2); have u1 := (B2.out.cell (p := ⟨b, o + i * 6 + 1, none⟩) hb2).trans dw; have he' := he.ok rfl; subst he'; clear b2 he))
              all_goals go_wp2
              all_goals
                go_roundw
                case rel => exact ⟨i + 1, by omega, by go_num, OK.out, ((HF.out.later B2.out).skip (by rw [HKD.out]; omega)), HBl.out.trans (B2.out.mono HBl.out.size)⟩
                case measure => simp [intOf]; omega
        · have PF := Lib.hid (BAD.out (fun h => by
            rcases h with h | h
            · rw [HKD.out] at h; omega
            · have := h.1; rw [HV.out] at this; exact z this))
          go_wp2_with fail
          go_region_law (go_simp; go_at_call 27; refine (KV.out _ (Below.refl _ _).drew).mono ?_; rintro e w2 ⟨he, b2⟩; have B2 := Lib.hid (show Below wr.heap.size wr w2 from (Below.refl _ _).drew.trans b2); clear b2; have u1 := (B2.out.cell (p := ⟨b, o + i * 6 + 1, none⟩) hb2).trans dw; rcases he.dead z with ⟨rfl, hF⟩ | he2; rotate_left; focus (subst he2; unfold pnc; (try go_wp2); exact ⟨rfl, .inl ⟨by rw [PF.out]; exact z, by rw [PF.out]; rfl⟩, HBl.out.trans (B2.out.mono HBl.out.size)⟩))
          all_goals exact hF.out.elim
      · -- a factor
        by_cases z : ff = 0
        · subst z
          have OK := Lib.hid (NX.out (.inr ⟨by rw [HV.out], fun h => by rw [HKD.out] at h; omega⟩))
          go_wp2_with fail
          go_region_law (go_simp; go_at_call 27; refine (KV.out _ (Below.refl _ _).drew).mono ?_; rintro e w2 ⟨he, b2⟩; have B2 := Lib.hid (show Below wr.heap.size wr w2 from (Below.refl _ _).drew.trans b2); have he' := he.ok rfl; subst he'; clear b2 he; have F2 := Lib.hid (HF.out.later B2.out); obtain ⟨cur, q1, q2, q3⟩ := F2.out; rw [HL.out] at q2; obtain ⟨y0, e0⟩ := q1.some1 i (by omega); have f0 := q1.frozen i; clear q1 q2 q3)
          all_goals go_wp2
          all_goals
            go_roundw
            case rel => exact ⟨i + 1, by omega, by go_num, OK.out, F2.out.put il' (by rw [HV.out]), (HBl.out.trans (B2.out.mono HBl.out.size)).setCell (p := ⟨w.heap.size, i, none⟩) (Nat.le_refl _) _⟩
            case measure => simp [intOf]; omega
        · have PF := Lib.hid (BAD.out (fun h => by
            rcases h with h | h
            · rw [HKD.out] at h; omega
            · have := h.1; rw [HV.out] at this; exact z this))
          go_wp2_with fail
          go_region_law (go_simp; go_at_call 27; refine (KV.out _ (Below.refl _ _).drew).mono ?_; rintro e w2 ⟨he, b2⟩; have B2 := Lib.hid (show Below wr.heap.size wr w2 from (Below.refl _ _).drew.trans b2); clear b2; have F2 := Lib.hid (HF.out.later B2.out); obtain ⟨cur, q1, q2, q3⟩ := F2.out; rw [HL.out] at q2; obtain ⟨y0, e0⟩ := q1.some1 i (by omega); have f0 := q1.frozen i; clear q1 q2 q3; rcases he.dead z with ⟨rfl, hF⟩ | he2; rotate_left; focus (subst he2; unfold pnc; (try go_wp2); exact ⟨rfl, .inl ⟨by rw [PF.out]; exact z, by rw [PF.out]; rfl⟩, HBl.out.trans (B2.out.mono HBl.out.size)⟩))
          all_goals exact hF.out.elim
      · have OK := Lib.hid (NX.out (.inl HKD.out))
        go_wp2
        go_roundw
        case rel => exact ⟨i + 1, by omega, by go_num, OK.out, HF.out.skip (by rw [HKD.out]; omega), HBl.out⟩
        case measure => simp [intOf]; omega
    · obtain rfl : i = n := by omega
      have PF := Lib.hid (passF_ok (R := Rws rs) (C := C) ss (fun s hs => by
        obtain ⟨j, hj, rfl⟩ := List.mem_iff_getElem.1 hs
        have := HO.out j (by rw [← HL.out]; exact hj)
        simpa [List.getD, hj] using this))
      go_wp2
      go_ret2
      refine ⟨.inr (.inr ⟨PF.out, w.heap.size, by rw [HL.out]; rfl, by rw [HL.out]; exact HF.out⟩), HBl.out⟩
end Go.Proofs.Ytjlnbhmiahegmaa
