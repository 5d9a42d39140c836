/-
  WALK: Schedule.
-/
import Derived.Test.YtpeglcnenagkbaaDoorWSch3
namespace Go.Proofs.YtpeglcnenagkbaaDoor
open Go.RowKit
open Cal
set_option linter.unusedVariables false
set_option linter.unusedSimpArgs false

theorem add_zero_is {y m d N u Y M D E : Int} (t : tenB N u = true) (x : exB y m d = true) (h : AddIs y m d N u 0 Y M D E) : E = 0 ∧ num Y M D = num y m d := by
  obtain ⟨x1, x2, x3, x4, x5, x6⟩ := ex_out x
  have nb := num_bd x
  unfold AddIs at h
  rw [if_neg (by rw [t]; simp), if_neg (by rw [x]; simp), if_neg (by omega)] at h
  have da : dayOr (num y m d) Y M D E → E = 0 ∧ num Y M D = num y m d := by
    intro h
    unfold dayOr at h
    rw [if_pos (by omega)] at h
    exact ⟨h.2.2, h.2.1⟩
  have mo : monOr (12 * (y - 1900) + m - 1) d Y M D E → E = 0 ∧ num Y M D = num y m d := by
    intro h
    unfold monOr at h
    rw [if_pos (by omega)] at h
    obtain ⟨rfl, rfl, rfl, rfl⟩ := h
    have e1 : 1900 + (12 * (y - 1900) + m - 1) / 12 = y := by omega
    have e2 : (12 * (y - 1900) + m - 1) % 12 + 1 = m := by omega
    refine ⟨rfl, ?_⟩
    rw [e1, e2]
    unfold cutD
    rw [if_pos x6]
  simp only [Int.mul_zero, Int.add_zero] at h
  split at h
  · exact da h
  · split at h
    · exact da h
    · split at h
      · exact mo h
      · exact mo h
theorem Reg.pos {y m d N u last : Int} {L : List Int} (h : Reg y m d N u last L) (t : tenB N u = true) (x : exB y m d = true) (hl : num y m d ≤ last) : 0 < L.length := by
  by_cases e : L.length = 0
  · exfalso
    obtain ⟨_, Y, M, D, E, a, b⟩ := h
    rw [e] at a
    have := add_zero_is t x (by simpa using a)
    omega
  · omega
theorem Reg.len {y m d N u last : Int} {L : List Int} (h : Reg y m d N u last L) : L.length ≤ 109574 := by
  by_cases e : L.length = 0
  · omega
  · obtain ⟨Y, M, D, a, _, _⟩ := h.1 (L.length - 1) (by omega)
    have := (add_ok a).2.2.1
    omega
theorem Reg.day {y m d N u last : Int} {L : List Int} (h : Reg y m d N u last L) (i : Nat) (hi : i < L.length) : ∃ Y M D, exB Y M D = true ∧ num Y M D = L.getD i 0 := by
  obtain ⟨Y, M, D, a, b, _⟩ := h.1 i hi
  exact ⟨Y, M, D, (add_ok a).2.2.2.1, b⟩
theorem Reg.inC {y m d N u last : Int} {L : List Int} (h : Reg y m d N u last L) (i : Nat) (hi : i < L.length) : 0 ≤ L.getD i 0 ∧ L.getD i 0 < 109573 := by
  obtain ⟨Y, M, D, a, b⟩ := h.day i hi
  have := num_bd a; omega

/-- Why there is no schedule. -/
def SchNo (y m d y2 m2 d2 N u conv : Int) (ds : List Dt) : Prop :=
  tenB N u = false ∨ ¬ (0 ≤ conv ∧ conv ≤ 3) ∨ exB y m d = false ∨ exB y2 m2 d2 = false ∨ NumsNo ds ∨ num y2 m2 d2 < num y m d ∨ ∃ day zs r x, x ≠ 0 ∧ AdjIs day conv zs r x
/-- How Schedule ends. -/
def SchE (y m d y2 m2 d2 N u conv : Int) (ds : List Dt) (e : Ending) (w' : World) : Prop :=
  (∃ x : Int, e = .returned (.tuple #[.slice none 0 0, .int .i64 x]) ∧ x ≠ 0 ∧ SchNo y m d y2 m2 d2 N u conv ds) ∨
  (∃ (xa : Option Addr) (cap : Nat) (zs L rs : List Int), e = .returned (.tuple #[.slice xa (Lib.compact rs).length cap, .int .i64 0]) ∧ (tenB N u = true ∧ (conv = 0 ∨ conv = 1 ∨ conv = 2 ∨ conv = 3) ∧ exB y m d = true ∧ exB y2 m2 d2 = true ∧ NumsOk ds zs ∧ num y m d ≤ num y2 m2 d2) ∧ Reg y m d N u (num y2 m2 d2) L ∧ AdjL conv zs L rs ∧ Ls w' xa (Lib.compact rs).length (Lib.compact rs))
theorem sch_boxes (w : World) (y m d y2 m2 d2 N u : Int) : let W := ((w.alloc (.cells #[.int .i64 y, .int .i64 m, .int .i64 d] 35)).alloc (.cells #[.int .i64 y2, .int .i64 m2, .int .i64 d2] 35)).alloc (.cells #[.int .i64 N, .int .i64 u] 37)
    ((W.cell? ⟨w.heap.size, 0, none⟩ = some (.int .i64 y) ∧ W.cell? ⟨w.heap.size, 1, none⟩ = some (.int .i64 m) ∧ W.cell? ⟨w.heap.size, 2, none⟩ = some (.int .i64 d)) ∧ (W.cell? ⟨w.heap.size + 1, 0, none⟩ = some (.int .i64 y2) ∧ W.cell? ⟨w.heap.size + 1, 1, none⟩ = some (.int .i64 m2) ∧ W.cell? ⟨w.heap.size + 1, 2, none⟩ = some (.int .i64 d2)) ∧ (W.cell? ⟨w.heap.size + 1 + 1, 0, none⟩ = some (.int .i64 N) ∧ W.cell? ⟨w.heap.size + 1 + 1, 1, none⟩ = some (.int .i64 u)) ∧ W.heap.size = w.heap.size + 3) := by
  intro W
  exact ⟨⟨by simp only [W]; go_simp, by simp only [W]; go_simp, by simp only [W]; go_simp⟩, ⟨by simp only [W]; go_simp, by simp only [W]; go_simp, by simp only [W]; go_simp⟩, ⟨by simp only [W]; go_simp, by simp only [W]; go_simp⟩, by simp [W]⟩
/-- The boxes of Schedule, later on. -/
structure SBx (w W : World) (y m d y2 m2 d2 N u : Int) : Prop where
  a0 : W.cell? ⟨w.heap.size, 0, none⟩ = some (.int .i64 y)
  a1 : W.cell? ⟨w.heap.size, 1, none⟩ = some (.int .i64 m)
  a2 : W.cell? ⟨w.heap.size, 2, none⟩ = some (.int .i64 d)
  b0 : W.cell? ⟨w.heap.size + 1, 0, none⟩ = some (.int .i64 y2)
  b1 : W.cell? ⟨w.heap.size + 1, 1, none⟩ = some (.int .i64 m2)
  b2 : W.cell? ⟨w.heap.size + 1, 2, none⟩ = some (.int .i64 d2)
  c0 : W.cell? ⟨w.heap.size + 1 + 1, 0, none⟩ = some (.int .i64 N)
  c1 : W.cell? ⟨w.heap.size + 1 + 1, 1, none⟩ = some (.int .i64 u)
  sz : w.heap.size + 3 ≤ W.heap.size
  bel : Below w.heap.size w W
theorem SBx.later {w W W' : World} {y m d y2 m2 d2 N u : Int} (h : SBx w W y m d y2 m2 d2 N u) (k : Below W.heap.size W W') : SBx w W' y m d y2 m2 d2 N u := by
  have z := h.sz
  have q : ∀ k' i v, k' < W.heap.size → W.cell? ⟨k', i, none⟩ = some v → W'.cell? ⟨k', i, none⟩ = some v := fun k' i v hk hv => (k.cell (p := ⟨k', i, none⟩) hk).trans hv
  exact ⟨q _ _ _ (by omega) h.a0, q _ _ _ (by omega) h.a1, q _ _ _ (by omega) h.a2, q _ _ _ (by omega) h.b0, q _ _ _ (by omega) h.b1, q _ _ _ (by omega) h.b2, q _ _ _ (by omega) h.c0, q _ _ _ (by omega) h.c1, by have := k.size; omega, h.bel.trans (k.mono (by omega))⟩
set_option maxHeartbeats 4000000 in
theorem schedule_any (y m d y2 m2 d2 N u conv : Int) (a : Option Addr) (n cap : Nat) (ds : List Dt) (w : World) (hT : Tz w) (hM : Mon w) (h : DL w a n ds) :
    Calls Tryd.prog 14 #[.agg #[.int .i64 y, .int .i64 m, .int .i64 d], .agg #[.int .i64 y2, .int .i64 m2, .int .i64 d2], .agg #[.int .i64 N, .int .i64 u], .int .i64 conv, .slice a n cap] w fun e w' => SchE y m d y2 m2 d2 N u conv ds e w' ∧ Below w.heap.size w w' := by
  obtain ⟨w0, hw0⟩ : ∃ w0, ((w.alloc (.cells #[.int .i64 y, .int .i64 m, .int .i64 d] 35)).alloc (.cells #[.int .i64 y2, .int .i64 m2, .int .i64 d2] 35)).alloc (.cells #[.int .i64 N, .int .i64 u] 37) = w0 := ⟨_, rfl⟩
  have S0 := Lib.hid (p := SBx w w0 y m d y2 m2 d2 N u) (by
    have q := sch_boxes w y m d y2 m2 d2 N u
    simp only [hw0] at q
    obtain ⟨⟨q1, q2, q3⟩, ⟨q4, q5, q6⟩, ⟨q7, q8⟩, q9⟩ := q
    exact ⟨q1, q2, q3, q4, q5, q6, q7, q8, by omega, by rw [← hw0]; exact (((Below.refl _ _).alloc (Nat.le_refl _) _).alloc (by simp) _).alloc (by simp; omega) _⟩)
  have HT := Lib.hid (p := ∀ W, Below w.heap.size w W → Tz W) (fun W b => tz_below (Nat.le_refl _) b hT)
  have HM := Lib.hid (p := ∀ W, Below w.heap.size w W → Mon W) (fun W b => mon_below (Nat.le_refl _) b hM)
  have HD := Lib.hid (p := ∀ W, Below w.heap.size w W → DL W a n ds) (fun W b => h.later b)
  have LD := Lib.hid h.1
  have KT := Lib.hid (isTenor_any N u w0)
  have KV := Lib.hid (fun W => isConvention_any conv W)
  have KD1 := Lib.hid (fun W (q : Below w.heap.size w W) => day_any y m d W (HM.out W q))
  have KD2 := Lib.hid (fun W (q : Below w.heap.size w W) => day_any y2 m2 d2 W (HM.out W q))
  have KN := Lib.hid (fun W (q : Below w.heap.size w W) => numbers_any a n cap ds W (HM.out W q) (HD.out W q))
  have KR := Lib.hid (fun W (q : Below w.heap.size w W) => regular_any y m d N u (num y2 m2 d2) W (HM.out W q))
  clear hT hM h
  go_enter Tryd.func14, Tryd.ntmps14
  obtain ⟨a0, a1, a2, b0, b1, b2, c0, c1, _, _⟩ := S0.out
  go_wp2_with fail
  try simp only [hw0]
  clear hw0
  go_at_call 32
  refine KT.out.mono ?_
  rintro e w1 ⟨rfl, k1⟩
  have S1 := Lib.hid (S0.out.later k1)
  clear k1 a0 a1 a2 b0 b1 b2 c0 c1 S0
  cases ht : tenB N u with
  | false =>
    have HTN := Lib.hid ht
    clear ht
    go_wp2
    go_ret2
    exact ⟨.inl ⟨1, rfl, by omega, .inl HTN.out⟩, S1.out.bel⟩
  | true =>
    have HTN := Lib.hid ht
    clear ht
    go_wp2_with fail
    go_at_call 33
    refine (KV.out w1).mono ?_
    rintro e w1' ⟨rfl, rfl⟩
    by_cases hcv : 0 ≤ conv ∧ conv ≤ 3
    · rw [decide_eq_true hcv]
      have HCV := Lib.hid (p := conv = 0 ∨ conv = 1 ∨ conv = 2 ∨ conv = 3) (by omega)
      clear hcv
      obtain ⟨a0, a1, a2, b0, b1, b2, c0, c1, _, _⟩ := S1.out
      go_wp2_with fail
      go_at_call 17
      refine (KD1.out _ S1.out.bel).mono ?_
      rintro e w2 ⟨rfl, k2⟩
      have S2 := Lib.hid (S1.out.later k2)
      clear k2 a0 a1 a2 b0 b1 b2 c0 c1
      cases hx : exB y m d with
      | false =>
        rw [(day_f hx).1, (day_f hx).2]
        have HX := Lib.hid hx
        clear hx
        go_wp2
        go_ret2
        exact ⟨.inl ⟨21, rfl, by omega, .inr (.inr (.inl HX.out))⟩, S2.out.bel⟩
      | true =>
        rw [(day_t hx).1, (day_t hx).2]
        have HX := Lib.hid hx
        clear hx
        obtain ⟨a0, a1, a2, b0, b1, b2, c0, c1, _, _⟩ := S2.out
        go_wp2_with fail
        go_at_call 17
        refine (KD2.out _ S2.out.bel).mono ?_
        rintro e w3 ⟨rfl, k3⟩
        have S3 := Lib.hid (S2.out.later k3)
        clear k3 a0 a1 a2 b0 b1 b2 c0 c1
        cases hx2 : exB y2 m2 d2 with
        | false =>
          rw [(day_f hx2).1, (day_f hx2).2]
          have HX2 := Lib.hid hx2
          clear hx2
          go_wp2
          go_ret2
          exact ⟨.inl ⟨21, rfl, by omega, .inr (.inr (.inr (.inl HX2.out)))⟩, S3.out.bel⟩
        | true =>
          rw [(day_t hx2).1, (day_t hx2).2]
          have HX2 := Lib.hid hx2
          clear hx2
          obtain ⟨n1, hn1⟩ : ∃ n1, num y m d = n1 := ⟨_, rfl⟩
          obtain ⟨n2, hn2⟩ : ∃ n2, num y2 m2 d2 = n2 := ⟨_, rfl⟩
          rw [hn1, hn2]
          rw [hn2] at KR
          have HN := Lib.hid (And.intro hn1 hn2)
          clear hn1 hn2
          go_wp2_with fail
          go_at_call 34
          refine (KN.out _ S3.out.bel).mono ?_
          rintro e w4 ⟨hnum, k4⟩
          have S4 := Lib.hid (S3.out.later k4)
          clear k4
          rcases hnum with ⟨zs, rfl, hok, hls⟩ | ⟨rfl, hno⟩
          · have HOK := Lib.hid hok
            have HLS := Lib.hid hls
            clear hok hls
            by_cases hgt : n2 < n1
            · go_wp2
              go_ret2
              exact ⟨.inl ⟨2, rfl, by omega, .inr (.inr (.inr (.inr (.inr (.inl (by rw [HN.out.1, HN.out.2]; exact hgt))))))⟩, S4.out.bel⟩
            · obtain ⟨a0, a1, a2, b0, b1, b2, c0, c1, _, _⟩ := S4.out
              go_wp2_with fail
              go_at_call 36
              refine (KR.out _ S4.out.bel).mono ?_
              rintro e w5 ⟨v, rfl, k5, L, hR, hO⟩
              have S5 := Lib.hid (S4.out.later k5)
              have hpos := hR.pos HTN.out HX.out (by rw [HN.out.1]; omega)
              obtain ⟨g, gcap, rfl, hg, hgc, hwi⟩ := own_wi hO hpos
              have HR := Lib.hid hR
              have HG := Lib.hid (p := w.heap.size ≤ g) (by have := S4.out.bel.size; omega)
              have KA := Lib.hid (adjustAll_any g gcap w.heap.size conv (some ⟨w3.heap.size, 0, none⟩) n n zs L w5 HG.out hwi hgc (by have := hR.len; omega) (fun i hi => hR.inC i hi) HCV.out (HLS.out.later k5) (fun W b => HT.out W (S5.out.bel.trans b)) (fun W b => HM.out W (S5.out.bel.trans b)))
              clear k5 hR hO hwi hpos a0 a1 a2 b0 b1 b2 c0 c1 hg hgc
              go_wp2_with fail
              go_at_call 35
              refine KA.out.mono ?_
              rintro e w6 ⟨hall, k6⟩
              have B6 := Lib.hid (S5.out.bel.trans k6)
              clear k6
              rcases hall with ⟨rs, rfl, hA, hl⟩ | ⟨x, rfl, hx0, i0, r0, _, hbad⟩
              · have HA := Lib.hid hA
                have HL := Lib.hid hl
                clear hA hl
                go_wp2
                go_ret2
                exact ⟨.inr ⟨_, _, zs, L, rs, rfl, ⟨HTN.out, HCV.out, HX.out, HX2.out, HOK.out, by rw [HN.out.1, HN.out.2]; omega⟩, by rw [HN.out.2]; exact HR.out, HA.out, HL.out⟩, B6.out⟩
              · have HX0 := Lib.hid hx0
                have HBD := Lib.hid hbad
                clear hx0 hbad
                go_wp2
                go_ret2
                exact ⟨.inl ⟨x, rfl, HX0.out, .inr (.inr (.inr (.inr (.inr (.inr ⟨_, zs, r0, x, HX0.out, HBD.out⟩)))))⟩, B6.out⟩
          · have HNO := Lib.hid hno
            clear hno
            go_wp2
            go_ret2
            exact ⟨.inl ⟨21, rfl, by omega, .inr (.inr (.inr (.inr (.inl HNO.out))))⟩, S4.out.bel⟩
    · rw [decide_eq_false hcv]
      have HCV := Lib.hid hcv
      clear hcv
      go_wp2
      go_ret2
      exact ⟨.inl ⟨1, rfl, by omega, .inr (.inl HCV.out)⟩, S1.out.bel⟩
end Go.Proofs.YtpeglcnenagkbaaDoor
