/-
  WALK: Schedule.
-/
import Derived.Test.YtpeglcnenagkbaaDoorWSch3
namespace Go.Proofs.YtpeglcnenagkbaaDoor
open Go.RowKit
open Cal
set_option linter.unusedVariables false
set_option linter.unusedSimpArgs false

theorem add_zero_is {y m d N u Y M D E : Int} (t : tenB N u = true) (x : exB y m d = true) (h : AddIs y m d N u 0 Y M D E) : E = 0 ∧ num Y M D = num y m d := by
  obtain ⟨x1, x2, x3, x4, x5, x6⟩ := ex_out x
  have nb := num_bd x
  unfold AddIs at h
  rw [if_neg (by rw [t]; simp), if_neg (by rw [x]; simp), if_neg (by omega)] at h
  have da : dayOr (num y m d) Y M D E → E = 0 ∧ num Y M D = num y m d := by
    intro h
    unfold dayOr at h
    rw [if_pos (by omega)] at h
    exact ⟨h.2.2, h.2.1⟩
  have mo : monOr (12 * (y - 1900) + m - 1) d Y M D E → E = 0 ∧ num Y M D = num y m d := by
    intro h
    unfold monOr at h
    rw [if_pos (by omega)] at h
    obtain ⟨rfl, rfl, rfl, rfl⟩ := h
    have e1 : 1900 + (12 * (y - 1900) + m - 1) / 12 = y := by omega
    have e2 : (12 * (y - 1900) + m - 1) % 12 + 1 = m := by omega
    refine ⟨rfl, ?_⟩
    rw [e1, e2]
    unfold cutD
    rw [if_pos x6]
  simp only [Int.mul_zero, Int.add_zero] at h
  split at h
  · exact da h
  · split at h
    · exact da h
    · split at h
      · exact mo h
      · exact mo h
theorem Reg.pos {y m d N u last : Int} {L : List Int} (h : Reg y m d N u last L) (t : tenB N u = true) (x : exB y m d = true) (hl : num y m d ≤ last) : 0 < L.length := by
  by_cases e : L.length = 0
  · exfalso
    obtain ⟨_, Y, M, D, E, a, b⟩ := h
    rw [e] at a
    have := add_zero_is t x (by simpa using a)
    omega
  · omega
theorem Reg.len {y m d N u last : Int} {L : List Int} (h : Reg y m d N u last L) : L.length ≤ 109574 := by
  by_cases e : L.length = 0
  · omega
  · obtain ⟨Y, M, D, a, _, _⟩ := h.1 (L.length - 1) (by omega)
    have := (add_ok a).2.2.1
    omega
theorem Reg.day {y m d N u last : Int} {L : List Int} (h : Reg y m d N u last L) (i : Nat) (hi : i < L.length) : ∃ Y M D, exB Y M D = true ∧ num Y M D = L.getD i 0 := by
  obtain ⟨Y, M, D, a, b, _⟩ := h.1 i hi
  exact ⟨Y, M, D, (add_ok a).2.2.2.1, b⟩
theorem Reg.inC {y m d N u last : Int} {L : List Int} (h : Reg y m d N u last L) (i : Nat) (hi : i < L.length) : 0 ≤ L.getD i 0 ∧ L.getD i 0 < 109573 := by
  obtain ⟨Y, M, D, a, b⟩ := h.day i hi
  have := num_bd a; omega

/-- Why there is no schedule. -/
def SchNo (y m d y2 m2 d2 N u conv : Int) (ds : List Dt) : Prop :=
  tenB N u = false ∨ ¬ (0 ≤ conv ∧ conv ≤ 3) ∨ exB y m d = false ∨ exB y2 m2 d2 = false ∨ NumsNo ds ∨ num y2 m2 d2 < num y m d ∨ ∃ day zs r x, x ≠ 0 ∧ AdjIs day conv zs r x
/-- How Schedule ends. -/
def SchE (y m d y2 m2 d2 N u conv : Int) (ds : List Dt) (e : Ending) (w' : World) : Prop :=
  (∃ x : Int, e = .returned (.tuple #[.slice none 0 0, .int .i64 x]) ∧ x ≠ 0 ∧ SchNo y m d y2 m2 d2 N u conv ds) ∨
  (∃ (xa : Option Addr) (cap : Nat) (zs L rs : List Int), e = .returned (.tuple #[.slice xa (Lib.compact rs).length cap, .int .i64 0]) ∧ (tenB N u = true ∧ (conv = 0 ∨ conv = 1 ∨ conv = 2 ∨ conv = 3) ∧ exB y m d = true ∧ exB y2 m2 d2 = true ∧ NumsOk ds zs ∧ num y m d ≤ num y2 m2 d2) ∧ Reg y m d N u (num y2 m2 d2) L ∧ AdjL conv zs L rs ∧ Ls w' xa (Lib.compact rs).length (Lib.compact rs))
theorem sch_boxes (w : World) (y m d y2 m2 d2 N u : Int) : let W := ((w.alloc (.cells #[.int .i64 y, .int .i64 m, .int .i64 d] 35)).alloc (.cells #[.int .i64 y2, .int .i64 m2, .int .i64 d2] 35)).alloc (.cells #[.int .i64 N, .int .i64 u] 37)
    ((W.cell? ⟨w.heap.size, 0, none⟩ = some (.int .i64 y) ∧ W.cell? ⟨w.heap.size, 1, none⟩ = some (.int .i64 m) ∧ W.cell? ⟨w.heap.size, 2, none⟩ = some (.int .i64 d)) ∧ (W.cell? ⟨w.heap.size + 1, 0, none⟩ = some (.int .i64 y2) ∧ W.cell? ⟨w.heap.size + 1, 1, none⟩ = some (.int .i64 m2) ∧ W.cell? ⟨w.heap.size + 1, 2, none⟩ = some (.int .i64 d2)) ∧ (W.cell? ⟨w.heap.size + 1 + 1, 0, none⟩ = some (.int .i64 N) ∧ W.cell? ⟨w.heap.size + 1 + 1, 1, none⟩ = some (.int .i64 u)) ∧ W.heap.size = w.heap.size + 3) := by
  intro W
  exact ⟨⟨by simp only [W]; go_simp, by simp only [W]; go_simp, by simp only [W]; go_simp⟩, ⟨by simp only [W]; go_simp, by simp only [W]; go_simp, by simp only [W]; go_simp⟩, ⟨by simp only [W]; go_simp, by simp only [W]; go_simp⟩, by simp [W]⟩
/-- The boxes of Schedule, later on. -/
structure SBx (w W : World) (y m d y2 m2 d2 N u : Int) : Prop where
  a0 : W.cell? ⟨w.heap.size, 0, none⟩ = some (.int .i64 y)
  a1 : W.cell? ⟨w.heap.size, 1, none⟩ = some (.int .i64 m)
  a2 : W.cell? ⟨w.heap.size, 2, none⟩ = some (.int .i64 d)
  b0 : W.cell? ⟨w.heap.size + 1, 0, none⟩ = some (.int .i64 y2)
  b1 : W.cell? ⟨w.heap.size + 1, 1, none⟩ = some (.int .i64 m2)
  b2 : W.cell? ⟨w.heap.size + 1, 2, none⟩ = some (.int .i64 d2)
  c0 : W.cell? ⟨w.heap.size + 1 + 1, 0, none⟩ = some (.int .i64 N)
  c1 : W.cell? ⟨w.heap.size + 1 + 1, 1, none⟩ = some (.int .i64 u)
  sz : w.heap.size + 3 ≤ W.heap.size
  bel : Below w.heap.size w W
theorem SBx.later {w W W' : World} {y m d y2 m2 d2 N u : Int} (h : SBx w W y m d y2 m2 d2 N u) (k : Below W.heap.size W W') : SBx w W' y m d y2 m2 d2 N u := by
  have z := h.sz
  have q : ∀ k' i v, k' < W.heap.size → W.cell? ⟨k', i, none⟩ = some v → W'.cell? ⟨k', i, none⟩ = some v := fun k' i v hk hv => (k.cell (p := ⟨k', i, none⟩) hk).trans hv
  exact ⟨q _ _ _ (by omega) h.a0, q _ _ _ (by omega) h.a1, q _ _ _ (by omega) h.a2, q _ _ _ (by omega) h.b0, q _ _ _ (by omega) h.b1, q _ _ _ (by omega) h.b2, q _ _ _ (by omega) h.c0, q _ _ _ (by omega) h.c1, by have := k.size; omega, h.bel.trans (k.mono (by omega))⟩
set_option maxHeartbeats 4000000 in
theorem schedule_any (y m d y2 m2 d2 N u conv : Int) (a : Option Addr) (n cap : Nat) (ds : List Dt) (w : World) (hT : Tz w) (hM : Mon w) (h : DL w a n ds) :
    Calls Tryd.prog 14 #[.agg #[.int .i64 y, .int .i64 m, .int .i64 d], .agg #[.int .i64 y2, .int .i64 m2, .int .i64 d2], .agg #[.int .i64 N, .int .i64 u], .int .i64 conv, .slice a n cap] w fun e w' => SchE y m d y2 m2 d2 N u conv ds e w' ∧ Below w.heap.size w w' := by
  obtain ⟨w0, hw0⟩ : ∃ w0, ((w.alloc (.cells #[.int .i64 y, .int .i64 m, .int .i64 d] 35)).alloc (.cells #[.int .i64 y2, .int .i64 m2, .int .i64 d2] 35)).alloc (.cells #[.int .i64 N, .int .i64 u] 37) = w0 := ⟨_, rfl⟩
  have S0 := Lib.hid (p := SBx w w0 y m d y2 m2 d2 N u) (by
    have q := sch_boxes w y m d y2 m2 d2 N u
    simp only [hw0] at q
    obtain ⟨⟨q1, q2, q3⟩, ⟨q4, q5, q6⟩, ⟨q7, q8⟩, q9⟩ := q
    exact ⟨q1, q2, q3, q4, q5, q6, q7, q8, by omega, by rw [← hw0]; exact (((Below.refl _ _).alloc (Nat.le_refl _) _).alloc (by simp) _).alloc (by simp; omega) _⟩)
  have HT := Lib.hid (p := ∀ W, Below w.heap.size w W → Tz W) (fun W b => tz_below (Nat.le_refl _) b hT)
  have HM := Lib.hid (p := ∀ W, Below w.heap.size w W → Mon W) (fun W b => mon_below (Nat.le_refl _) b hM)
  have HD := Lib.hid (p := ∀ W, Below w.heap.size w W → DL W a n ds) (fun W b => h.later b)
  have LD := Lib.hid h.1
  have KT := Lib.hid (isTenor_any N u w0)
  have KV := Lib.hid (fun W => isConvention_any conv W)
  have KD1 := Lib.hid (fun W (q : Below w.heap.size w W) => day_any y m d W (HM.out W q))
  have KD2 := Lib.hid (fun W (q : Below w.heap.size w W) => day_any y2 m2 d2 W (HM.out W q))
  have KN := Lib.hid (fun W (q : Below w.heap.size w W) => numbers_any a n cap ds W (HM.out W q) (HD.out W q))
  have KR := Lib.hid (fun W (q : Below w.heap.size w W) => regular_any y m d N u (num y2 m2 d2) W (HM.out W q))
  clear hT hM h
  go_enter Tryd.func14, Tryd.ntmps14
  obtain ⟨a0, a1, a2, b0, b1, b2, c0, c1, _, _⟩ := S0.out
  go_wp2_with fail
  try simp only [hw0]
  clear hw0
  go_at_call 32
  refine KT.out.mono ?_
  rintro e w1 ⟨rfl, k1⟩
  have S1 := Lib.hid (S0.out.later k1)
  clear k1 a0 a1 a2 b0 b1 b2 c0 c1 S0
  cases ht : tenB N u with
  | false =>
    have HTN := Lib.hid ht
    clear ht
    go_wp2
    go_ret2
    exact ⟨.inl ⟨1, rfl, by omega, .inl HTN.out⟩, S1.out.bel⟩
  | true =>
    have HTN := Lib.hid ht
    clear ht
    go_wp2_with fail
    go_at_call 33
    refine (KV.out w1).mono ?_
    rintro e w1' ⟨rfl, rfl⟩
    by_cases hcv : 0 ≤ conv ∧ conv ≤ 3
    · rw [decide_eq_true hcv]
      have HCV := Lib.hid (p := conv = 0 ∨ conv = 1 ∨ conv = 2 ∨ conv = 3) (by omega)
      clear hcv
      obtain ⟨a0, a1, a2, b0, b1, b2, c0, c1, _, _⟩ := S1.out
      go_wp2_with fail
      go_at_call 17
      refine (KD1.out _ S1.out.bel).mono ?_
      rintro e w2 ⟨rfl, k2⟩
      have S2 := Lib.hid (S1.out.later k2)
      clear k2 a0 a1 a2 b0 b1 b2 c0 c1
      cases hx : exB y m d with
      | false =>
        rw [(day_f hx).1, (day_f hx).2]
        have HX := Lib.hid hx
        clear hx
        go_wp2
        go_ret2
        exact ⟨.inl ⟨21, rfl, by omega, .inr (.inr (.inl HX.out))⟩, S2.out.bel⟩
      | true =>
        rw [(day_t hx).1, (day_t hx).2]
        have HX := Lib.hid hx
        clear hx
        obtain ⟨a0, a1, a2, b0, b1, b2, c0, c1, _, _⟩ := S2.out
        go_wp2_with fail
        go_at_call 17
        refine (KD2.out _ S2.out.bel).mono ?_
        rintro e w3 ⟨rfl, k3⟩
        have S3 := Lib.hid (S2.out.later k3)
        clear k3 a0 a1 a2 b0 b1 b2 c0 c1
        cases hx2 : exB y2 m2 d2 with
        | false =>
          rw [(day_f hx2).1, (day_f hx2).2]
          have HX2 := Lib.hid hx2
          clear hx2
          go_wp2
          go_ret2
          exact ⟨.inl ⟨21, rfl, by omega, .inr (.inr (.inr (.inl HX2.out)))⟩, S3.out.bel⟩
        | true =>
          rw [(day_t hx2).1, (day_t hx2).2]
          have HX2 := Lib.hid hx2
          clear hx2
          obtain ⟨n1, hn1⟩ : ∃ n1, num y m d = n1 := ⟨_, rfl⟩
          obtain ⟨n2, hn2⟩ : ∃ n2, num y2 m2 d2 = n2 := ⟨_, rfl⟩
          rw [hn1, hn2]
          rw [hn2] at KR
          have HN := Lib.hid (And.intro hn1 hn2)
          clear hn1 hn2
          go_wp2_with fail
          go_at_call 34
          refine (KN.out _ S3.out.bel).mono ?_
          rintro e w4 ⟨hnum, k4⟩
          have S4 := Lib.hid (S3.out.later k4)
          clear k4
          rcases hnum with ⟨zs, rfl, hok, hls⟩ | ⟨rfl, hno⟩
          · have HOK := Lib.hid hok
            have HLS := Lib.hid hls
            clear hok hls
            by_cases hgt : n2 < n1
            · go_wp2
              go_ret2
              exact ⟨.inl ⟨2, rfl, by omega, .inr (.inr (.inr (.inr (.inr (.inl (by rw [HN.out.1, HN.out.2]; exact hgt))))))⟩, S4.out.bel⟩
            · obtain ⟨a0, a1, a2, b0, b1, b2, c0, c1, _, _⟩ := S4.out
              go_wp2_with fail
              go_at_call 36
              refine (KR.out _ S4.out.bel).mono ?_
              rintro e w5 ⟨v, rfl, k5, L, hR, hO⟩
              have S5 := Lib.hid (S4.out.later k5)
              have hpos := hR.pos HTN.out HX.out (by rw [HN.out.1]; omega)
              obtain ⟨g, gcap, rfl, hg, hgc, hwi⟩ := own_wi hO hpos
              have HR := Lib.hid hR
              have HG := Lib.hid (p := w.heap.size ≤ g) (by have := S4.out.bel.size; omega)
              have KA := Lib.hid (adjustAll_any g gcap w.heap.size conv (some ⟨w3.heap.size, 0, none⟩) n n zs L w5 HG.out hwi hgc (by have := hR.len; omega) (fun i hi => hR.inC i hi) HCV.out (HLS.out.later k5) (fun W b => HT.out W (S5.out.bel.trans b)) (fun W b => HM.out W (S5.out.bel.trans b)))
              clear k5 hR hO hwi hpos a0 a1 a2 b0 b1 b2 c0 c1 hg hgc
              go_wp2_with fail
              go_at_call 35
              refine KA.out.mono ?_
              rintro e w6 ⟨hall, k6⟩
              have B6 := Lib.hid (S5.out.bel.trans k6)
              clear k6
              rcases hall with ⟨rs, rfl, hA, hl⟩ | ⟨x, rfl, hx0, i0, r0, _, hbad⟩
              · have HA := Lib.hid hA
                have HL := Lib.hid hl
                clear hA hl
                go_wp2
                go_ret2
                exact ⟨.inr ⟨_, _, zs, L, rs, rfl, ⟨HTN.out, HCV.out, HX.out, HX2.out, HOK.out, by rw [HN.out.1, HN.out.2]; omega⟩, by rw [HN.out.2]; exact HR.out, HA.out, HL.out⟩, B6.out⟩
              · have HX0 := Lib.hid hx0
                have HBD := Lib.hid hbad
                clear hx0 hbad
                go_wp2
                go_ret2
                exact ⟨.inl ⟨x, rfl, HX0.out, .inr (.inr (.inr (.inr (.inr (.inr ⟨_, zs, r0, x, HX0.out, HBD.out⟩)))))⟩, B6.out⟩
          · have HNO := Lib.hid hno
            clear hno
            go_wp2
            go_ret2
            exact ⟨.inl ⟨21, rfl, by omega, .inr (.inr (.inr (.inr (.inl HNO.out))))⟩, S4.out.bel⟩
    · rw [decide_eq_false hcv]
      have HCV := Lib.hid hcv
      clear hcv
      go_wp2
      go_ret2
      exact ⟨.inl ⟨1, rfl, by omega, .inr (.inl HCV.out)⟩, S1.out.bel⟩
end Go.Proofs.YtpeglcnenagkbaaDoor

namespace Go.Proofs.YtpeglcnenagkbaaDoor
open Go.RowKit
open Cal
set_option linter.unusedVariables false
set_option linter.unusedSimpArgs false

theorem add_plain (i : Nat) (hi : i < 4) {Y M D E : Int} (h : AddIs 2024 1 31 1 3 (i : Int) Y M D E) : E = 0 ∧ num Y M D = [(45320 : Int), 45349, 45380, 45410].getD i 0 := by
  unfold AddIs monOr at h
  rw [if_neg (by decide), if_neg (by decide), if_neg (by omega), if_neg (by decide), if_neg (by decide), if_pos rfl, if_pos (by omega)] at h
  obtain ⟨rfl, rfl, rfl, rfl⟩ := h
  refine ⟨rfl, ?_⟩
  match i, hi with
  | 0, _ => decide
  | 1, _ => decide
  | 2, _ => decide
  | 3, _ => decide
theorem plain_reg {L : List Int} (h : Reg 2024 1 31 1 3 (num 2024 3 31) L) : L = [45320, 45349, 45380] := by
  have e : num 2024 3 31 = 45380 := by decide
  rw [e] at h
  obtain ⟨h1, Y, M, D, E, a, b⟩ := h
  have hl : L.length = 3 := by
    by_cases q : L.length < 3
    · exfalso
      have := add_plain L.length (by omega) a
      match hh : L.length, q with
      | 0, _ => rw [hh] at this; simp at this; omega
      | 1, _ => rw [hh] at this; simp at this; omega
      | 2, _ => rw [hh] at this; simp at this; omega
    · by_cases q2 : 3 < L.length
      · exfalso
        obtain ⟨Y', M', D', a', b', c'⟩ := h1 3 q2
        have := (add_plain 3 (by omega) a').2
        simp at this
        omega
      · omega
  have g : ∀ i, i < 3 → L.getD i 0 = [(45320 : Int), 45349, 45380, 45410].getD i 0 := fun i hi => by
    obtain ⟨Y', M', D', a', b', _⟩ := h1 i (by omega)
    rw [← b']; exact (add_plain i (by omega) a').2
  have g0 : L.getD 0 0 = 45320 := g 0 (by omega)
  have g1 : L.getD 1 0 = 45349 := g 1 (by omega)
  have g2 : L.getD 2 0 = 45380 := g 2 (by omega)
  clear g h1 a b
  obtain ⟨x, y, z, rfl⟩ : ∃ x y z, L = [x, y, z] := by
    rcases L with _ | ⟨x, _ | ⟨y, _ | ⟨z, _ | ⟨t, r⟩⟩⟩⟩
    · cases hl
    · cases hl
    · cases hl
    · exact ⟨x, y, z, rfl⟩
    · simp at hl
  have e0 : x = 45320 := g0
  have e1 : y = 45349 := g1
  have e2 : z = 45380 := g2
  rw [e0, e1, e2]
theorem adj_zero {zs L rs : List Int} (h : AdjL 0 zs L rs) : rs = L := by
  apply List.ext_getElem h.1
  intro i h1 h2
  have := h.2 i h2
  unfold AdjIs at this
  simp only [List.getD, List.getElem?_eq_getElem h1, List.getElem?_eq_getElem h2, Option.getD_some] at this
  rcases this with ⟨_, a, _⟩ | ⟨c, _⟩ | ⟨c, _⟩ | ⟨c, _⟩
  · exact a
  · omega
  · omega
  · omega
theorem plain_no (h : SchNo 2024 1 31 2024 3 31 1 3 0 []) : False := by
  rcases h with h | h | h | h | h | h | ⟨day, zs, r, x, hx, h⟩
  · revert h; decide
  · omega
  · revert h; decide
  · revert h; decide
  · obtain ⟨i, hi, _⟩ := h; simp at hi
  · revert h; decide
  · unfold AdjIs at h
    rcases h with ⟨_, _, c⟩ | ⟨c, _⟩ | ⟨c, _⟩ | ⟨c, _⟩ <;> omega
/-- What the plain schedule is. -/
theorem plain_list {zs L rs : List Int} (hR : Reg 2024 1 31 1 3 (num 2024 3 31) L) (hA : AdjL 0 zs L rs) : Lib.compact rs = [45320, 45349, 45380] := by
  have e := plain_reg hR
  have e2 := adj_zero hA
  rw [e2, e]
  decide

/-- The days do not fall. -/
theorem sched_mono {y m d N u last conv : Int} {zs L rs : List Int} (hR : Reg y m d N u last L) (hA : AdjL conv zs L rs) : ∀ i, i + 1 < rs.length → rs.getD i 0 ≤ rs.getD (i + 1) 0 := by
  intro i hi
  have hl := hA.1
  obtain ⟨Y, M, D, a, b, _⟩ := hR.1 i (by omega)
  obtain ⟨Y', M', D', a', b', _⟩ := hR.1 (i + 1) (by omega)
  have lt := add_rise a a' (by omega)
  exact adj_mono (hA.2 i (by omega)) (hA.2 (i + 1) (by omega)) (by omega) (hR.day i (by omega)) (hR.day (i + 1) (by omega))
/-- Where the law stands in the list ahead of the i-th date. -/
def Sta (rs : List Int) (i at_ : Nat) : Prop := (i = 0 ∧ at_ = 0) ∨ (0 < i ∧ at_ + 1 = (Cn rs i).length)
theorem sta_first {rs : List Int} (h : 0 < rs.length) : (Lib.compact rs).getD 0 0 = rs.getD 0 0 ∧ 0 < (Lib.compact rs).length ∧ Sta rs 1 0 := by
  have a := cn_last rs 0
  have e : Cn rs 1 = [rs.getD 0 0] := by rw [cn_succ, cn_zero]; simp
  have l := cn_len (rs := rs) (i := 1) (n := rs.length) (by omega)
  have g := cn_getD (rs := rs) (i := 1) (n := rs.length) (k := 0) (by omega) (by rw [e]; simp)
  rw [cn_all] at l g
  rw [e] at l g
  exact ⟨by rw [g]; simp, by simp at l; omega, .inr ⟨by omega, by rw [e]; rfl⟩⟩
theorem sta_next {rs : List Int} {i at_ : Nat} (hm : ∀ i, i + 1 < rs.length → rs.getD i 0 ≤ rs.getD (i + 1) 0) (h : Sta rs i at_) (hi0 : 0 < i) (hi : i < rs.length) :
    at_ < (Lib.compact rs).length ∧ (Lib.compact rs).getD at_ 0 = rs.getD (i - 1) 0 ∧
    ((rs.getD i 0 = (Lib.compact rs).getD at_ 0 ∧ Sta rs (i + 1) at_ ∧ (0 < at_ → (Lib.compact rs).getD (at_ - 1) 0 < rs.getD i 0)) ∨
     (rs.getD i 0 ≠ (Lib.compact rs).getD at_ 0 ∧ Sta rs (i + 1) (at_ + 1) ∧ at_ + 1 < (Lib.compact rs).length ∧ (Lib.compact rs).getD (at_ + 1) 0 = rs.getD i 0 ∧ (Lib.compact rs).getD at_ 0 < rs.getD i 0)) := by
  obtain ⟨j, rfl⟩ : ∃ j, i = j + 1 := ⟨i - 1, by omega⟩
  have hs : at_ + 1 = (Cn rs (j + 1)).length := by
    rcases h with ⟨q, _⟩ | ⟨_, q⟩
    · omega
    · exact q
  have a := cn_last rs j
  have l1 := cn_len (rs := rs) (i := j + 1) (n := rs.length) (by omega)
  have l2 := cn_len (rs := rs) (i := j + 1 + 1) (n := rs.length) (by omega)
  have g1 := cn_getD (rs := rs) (i := j + 1) (n := rs.length) (k := at_) (by omega) (by omega)
  rw [cn_all] at l1 l2 g1
  have ga : (Lib.compact rs).getD at_ 0 = rs.getD j 0 := by rw [g1, ← a.2]; congr 1; omega
  have rise := cn_rise hm rs.length (Nat.le_refl _)
  rw [cn_all] at rise
  refine ⟨by omega, by simpa using ga, ?_⟩
  have sc := cn_succ rs (j + 1)
  by_cases q : rs.getD (j + 1) 0 = rs.getD j 0
  · left
    rw [if_neg (by simp; exact q), List.append_nil] at sc
    refine ⟨by rw [ga]; exact q, .inr ⟨by omega, by rw [sc]; exact hs⟩, fun hp => ?_⟩
    have := rise (at_ - 1) (by omega)
    rw [show at_ - 1 + 1 = at_ by omega, ga] at this
    omega
  · right
    rw [if_pos (by right; simpa using q)] at sc
    have ls : (Cn rs (j + 1 + 1)).length = (Cn rs (j + 1)).length + 1 := by rw [sc]; simp
    have g2 := cn_getD (rs := rs) (i := j + 1 + 1) (n := rs.length) (k := at_ + 1) (by omega) (by omega)
    rw [cn_all] at g2
    have a2 := (cn_last rs (j + 1)).2
    have gb : (Lib.compact rs).getD (at_ + 1) 0 = rs.getD (j + 1) 0 := by rw [g2, ← a2]; congr 1; omega
    refine ⟨by rw [ga]; exact q, .inr ⟨by omega, by omega⟩, by omega, gb, ?_⟩
    have := rise at_ (by omega)
    omega
theorem sta_end {rs : List Int} {at_ : Nat} (h : Sta rs rs.length at_) (h0 : 0 < rs.length) : at_ + 1 = (Lib.compact rs).length := by
  rcases h with ⟨q, _⟩ | ⟨_, q⟩
  · omega
  · rw [cn_all] at q; exact q
theorem add_bad {y m d N u n Y M D E : Int} (h : AddIs y m d N u n Y M D E) (hE : ¬ E = 0) : exB Y M D = false := by
  have z : exB 0 0 0 = false := by decide
  have da : ∀ k, dayOr k Y M D E → exB Y M D = false := fun k q => by
    unfold dayOr at q
    split at q
    · exact absurd q.2.2 hE
    · obtain ⟨rfl, rfl, rfl, _⟩ := q; exact z
  have mo : ∀ k, monOr k d Y M D E → exB Y M D = false := fun k q => by
    unfold monOr at q
    split at q
    · exact absurd q.2.2.2 hE
    · obtain ⟨rfl, rfl, rfl, _⟩ := q; exact z
  unfold AddIs at h
  split at h
  · obtain ⟨rfl, rfl, rfl, _⟩ := h; exact z
  · split at h
    · obtain ⟨rfl, rfl, rfl, _⟩ := h; exact z
    · split at h
      · obtain ⟨rfl, rfl, rfl, _⟩ := h; exact z
      · split at h
        · exact da _ h
        · split at h
          · exact da _ h
          · split at h
            · exact mo _ h
            · exact mo _ h
end Go.Proofs.YtpeglcnenagkbaaDoor
