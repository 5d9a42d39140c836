/-
  WALK: Schedule, with the row that it hands out.
-/
import Derived.Test.YtpeglcnenagkbaaDoorWSchA3
import Derived.Test.YtpeglcnenagkbaaDoorWSch4
namespace Go.Proofs.YtpeglcnenagkbaaDoor
open Go.RowKit
open Cal
set_option linter.unusedVariables false
set_option linter.unusedSimpArgs false

/-- How Schedule ends. -/
def SchO (w : World) (y m d y2 m2 d2 N u conv : Int) (ds : List Dt) (e : Ending) (w' : World) : Prop :=
  ∃ (v : Value) (x : Int) (cl : List Int), e = .returned (.tuple #[v, .int .i64 x]) ∧ SchA y m d y2 m2 d2 N u conv ds x cl ∧ OwnD w' w.heap.size v cl
theorem sch_nil {w w' : World} {y m d y2 m2 d2 N u conv x : Int} {ds : List Dt} (h : SchA y m d y2 m2 d2 N u conv ds x []) : SchO w y m d y2 m2 d2 N u conv ds (.returned (.tuple #[.slice none 0 0, .int .i64 x])) w' :=
  ⟨_, x, [], rfl, h, World.ownsRow_nil _ _ _ _⟩
set_option maxHeartbeats 4000000 in
theorem schedule_full (y m d y2 m2 d2 N u conv : Int) (a : Option Addr) (n cap : Nat) (ds : List Dt) (w : World) (hT : Tz w) (hM : Mon w) (h : DL w a n ds) :
    Calls Tryd.prog 14 #[.agg #[.int .i64 y, .int .i64 m, .int .i64 d], .agg #[.int .i64 y2, .int .i64 m2, .int .i64 d2], .agg #[.int .i64 N, .int .i64 u], .int .i64 conv, .slice a n cap] w fun e w' => SchO w y m d y2 m2 d2 N u conv ds e w' ∧ Below w.heap.size w w' := by
  obtain ⟨w0, hw0⟩ : ∃ w0, ((w.alloc (.cells #[.int .i64 y, .int .i64 m, .int .i64 d] 35)).alloc (.cells #[.int .i64 y2, .int .i64 m2, .int .i64 d2] 35)).alloc (.cells #[.int .i64 N, .int .i64 u] 37) = w0 := ⟨_, rfl⟩
  have S0 := Lib.hid (p := SBx w w0 y m d y2 m2 d2 N u) (by
    have q := sch_boxes w y m d y2 m2 d2 N u
    simp only [hw0] at q
    obtain ⟨⟨q1, q2, q3⟩, ⟨q4, q5, q6⟩, ⟨q7, q8⟩, q9⟩ := q
    exact ⟨q1, q2, q3, q4, q5, q6, q7, q8, by omega, by rw [← hw0]; exact (((Below.refl _ _).alloc (Nat.le_refl _) _).alloc (by simp) _).alloc (by simp; omega) _⟩)
  have HT := Lib.hid (p := ∀ W, Below w.heap.size w W → Tz W) (fun W b => tz_below (Nat.le_refl _) b hT)
  have HM := Lib.hid (p := ∀ W, Below w.heap.size w W → Mon W) (fun W b => mon_below (Nat.le_refl _) b hM)
  have HD := Lib.hid (p := ∀ W, Below w.heap.size w W → DL W a n ds) (fun W b => h.later b)
  have LD := Lib.hid h.1
  have KT := Lib.hid (isTenor_any N u w0)
  have KV := Lib.hid (fun W => isConvention_any conv W)
  have KD1 := Lib.hid (fun W (q : Below w.heap.size w W) => day_any y m d W (HM.out W q))
  have KD2 := Lib.hid (fun W (q : Below w.heap.size w W) => day_any y2 m2 d2 W (HM.out W q))
  have KN := Lib.hid (fun W (q : Below w.heap.size w W) => numbers_any a n cap ds W (HM.out W q) (HD.out W q))
  have KR := Lib.hid (fun W (q : Below w.heap.size w W) => regular_any y m d N u (num y2 m2 d2) W (HM.out W q))
  clear hT hM h
  go_enter Tryd.func14, Tryd.ntmps14
  obtain ⟨a0, a1, a2, b0, b1, b2, c0, c1, _, _⟩ := S0.out
  go_wp2_with fail
  try simp only [hw0]
  clear hw0
  go_at_call 32
  refine KT.out.mono ?_
  rintro e w1 ⟨rfl, k1⟩
  have S1 := Lib.hid (S0.out.later k1)
  clear k1 a0 a1 a2 b0 b1 b2 c0 c1 S0
  cases ht : tenB N u with
  | false =>
    have HTN := Lib.hid ht
    clear ht
    go_wp2
    go_ret2
    exact ⟨sch_nil (.inl ⟨fun h => (by have := HTN.out; rw [h.1] at this; cases this), rfl, rfl⟩), S1.out.bel⟩
  | true =>
    have HTN := Lib.hid ht
    clear ht
    go_wp2_with fail
    go_at_call 33
    refine (KV.out w1).mono ?_
    rintro e w1' ⟨rfl, rfl⟩
    by_cases hcv : 0 ≤ conv ∧ conv ≤ 3
    · rw [decide_eq_true hcv]
      have HCV := Lib.hid (p := conv = 0 ∨ conv = 1 ∨ conv = 2 ∨ conv = 3) (by omega)
      clear hcv
      obtain ⟨a0, a1, a2, b0, b1, b2, c0, c1, _, _⟩ := S1.out
      go_wp2_with fail
      go_at_call 17
      refine (KD1.out _ S1.out.bel).mono ?_
      rintro e w2 ⟨rfl, k2⟩
      have S2 := Lib.hid (S1.out.later k2)
      clear k2 a0 a1 a2 b0 b1 b2 c0 c1
      cases hx : exB y m d with
      | false =>
        rw [(day_f hx).1, (day_f hx).2]
        have HX := Lib.hid hx
        clear hx
        go_wp2
        go_ret2
        exact ⟨sch_nil (.inr (.inl ⟨⟨HTN.out, by have := HCV.out; omega, by have := HCV.out; omega⟩, .inl HX.out, rfl, rfl⟩)), S2.out.bel⟩
      | true =>
        rw [(day_t hx).1, (day_t hx).2]
        have HX := Lib.hid hx
        clear hx
        obtain ⟨a0, a1, a2, b0, b1, b2, c0, c1, _, _⟩ := S2.out
        go_wp2_with fail
        go_at_call 17
        refine (KD2.out _ S2.out.bel).mono ?_
        rintro e w3 ⟨rfl, k3⟩
        have S3 := Lib.hid (S2.out.later k3)
        clear k3 a0 a1 a2 b0 b1 b2 c0 c1
        cases hx2 : exB y2 m2 d2 with
        | false =>
          rw [(day_f hx2).1, (day_f hx2).2]
          have HX2 := Lib.hid hx2
          clear hx2
          go_wp2
          go_ret2
          exact ⟨sch_nil (.inr (.inl ⟨⟨HTN.out, by have := HCV.out; omega, by have := HCV.out; omega⟩, .inr (.inl HX2.out), rfl, rfl⟩)), S3.out.bel⟩
        | true =>
          rw [(day_t hx2).1, (day_t hx2).2]
          have HX2 := Lib.hid hx2
          clear hx2
          obtain ⟨n1, hn1⟩ : ∃ n1, num y m d = n1 := ⟨_, rfl⟩
          obtain ⟨n2, hn2⟩ : ∃ n2, num y2 m2 d2 = n2 := ⟨_, rfl⟩
          rw [hn1, hn2]
          rw [hn2] at KR
          have HN := Lib.hid (And.intro hn1 hn2)
          clear hn1 hn2
          go_wp2_with fail
          go_at_call 34
          refine (KN.out _ S3.out.bel).mono ?_
          rintro e w4 ⟨hnum, k4⟩
          have S4 := Lib.hid (S3.out.later k4)
          clear k4
          rcases hnum with ⟨zs, rfl, hok, hls⟩ | ⟨rfl, hno⟩
          · have HOK := Lib.hid hok
            have HLS := Lib.hid hls
            clear hok hls
            by_cases hgt : n2 < n1
            · go_wp2
              go_ret2
              exact ⟨sch_nil (.inr (.inr (.inl ⟨⟨HTN.out, by have := HCV.out; omega, by have := HCV.out; omega⟩, ⟨HX.out, HX2.out, zs, HOK.out⟩, by rw [HN.out.1, HN.out.2]; exact hgt, rfl, rfl⟩))), S4.out.bel⟩
            · obtain ⟨a0, a1, a2, b0, b1, b2, c0, c1, _, _⟩ := S4.out
              go_wp2_with fail
              go_at_call 36
              refine (KR.out _ S4.out.bel).mono ?_
              rintro e w5 ⟨v, rfl, k5, L, hR, hO⟩
              have S5 := Lib.hid (S4.out.later k5)
              have hpos := hR.pos HTN.out HX.out (by rw [HN.out.1]; omega)
              obtain ⟨g, gcap, rfl, hg, hgc, hwi⟩ := own_wi hO hpos
              have hor : OwR w5 w.heap.size g L.length gcap L := row_base hO (Nat.le_trans S4.out.bel.size (Nat.le_refl _))
              have HR := Lib.hid hR
              have HG := Lib.hid (p := w.heap.size ≤ g) (by have := S4.out.bel.size; omega)
              have KA := Lib.hid (adjustAll_own g gcap w.heap.size conv (some ⟨w3.heap.size, 0, none⟩) n n zs L w5 hor (by have := hR.len; omega) (fun i hi => hR.inC i hi) HCV.out (HLS.out.later k5) (fun W b => HT.out W (S5.out.bel.trans b)) (fun W b => HM.out W (S5.out.bel.trans b)))
              clear k5 hR hO hor hwi hpos a0 a1 a2 b0 b1 b2 c0 c1 hg hgc
              go_wp2_with fail
              go_at_call 35
              refine KA.out.mono ?_
              rintro e w6 ⟨hall, k6⟩
              have B6 := Lib.hid (S5.out.bel.trans k6)
              clear k6
              rcases hall with ⟨rs, rfl, hA, hl⟩ | ⟨x, rfl, hx0, i0, r0, hi0, hbad⟩

              · have HA := Lib.hid hA
                have HL := Lib.hid hl
                clear hA hl
                go_wp2
                go_ret2
                exact ⟨⟨_, 0, Lib.compact rs, rfl, .inr (.inr (.inr ⟨⟨HTN.out, by have := HCV.out; omega, by have := HCV.out; omega⟩, HX.out, HX2.out, by rw [HN.out.1, HN.out.2]; omega, zs, L, HOK.out, by rw [HN.out.2]; exact HR.out, .inr ⟨rs, HA.out, rfl, rfl⟩⟩)), HL.out⟩, B6.out⟩
              · have HX0 := Lib.hid hx0
                have HBD := Lib.hid (And.intro hi0 hbad)
                clear hx0 hbad hi0
                go_wp2
                go_ret2
                exact ⟨sch_nil (.inr (.inr (.inr ⟨⟨HTN.out, by have := HCV.out; omega, by have := HCV.out; omega⟩, HX.out, HX2.out, by rw [HN.out.1, HN.out.2]; omega, zs, L, HOK.out, by rw [HN.out.2]; exact HR.out, .inl ⟨⟨i0, r0, x, HBD.out.1, HBD.out.2, HX0.out⟩, adj_err HBD.out.2 HX0.out, rfl⟩⟩))), B6.out⟩
          · have HNO := Lib.hid hno
            clear hno
            go_wp2
            go_ret2
            exact ⟨sch_nil (.inr (.inl ⟨⟨HTN.out, by have := HCV.out; omega, by have := HCV.out; omega⟩, .inr (.inr HNO.out), rfl, rfl⟩)), S4.out.bel⟩
    · rw [decide_eq_false hcv]
      have HCV := Lib.hid hcv
      clear hcv
      go_wp2
      go_ret2
      exact ⟨sch_nil (.inl ⟨fun h => HCV.out h.2, rfl, rfl⟩), S1.out.bel⟩
end Go.Proofs.YtpeglcnenagkbaaDoor
