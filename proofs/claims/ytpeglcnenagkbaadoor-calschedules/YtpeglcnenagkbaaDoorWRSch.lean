/-
  WALK: the document's Schedule.
-/
import Derived.Test.YtpeglcnenagkbaaDoorPlainSch3
import Derived.Test.YtpeglcnenagkbaaDoorWSchA4
namespace Go.Proofs.YtpeglcnenagkbaaDoor
open Go.RowKit
open Cal
set_option linter.unusedVariables false
set_option linter.unusedSimpArgs false

theorem own_ls {w : World} {B : Nat} {v : Value} {zs : List Int} (h : OwnD w B v zs) (hn : zs.length ≤ 140737488355328) : ∃ A C, v = .slice A zs.length C ∧ Ls w A zs.length zs := by
  by_cases h0 : zs.length = 0
  · rcases h.2 with ⟨rfl, _⟩ | ⟨g, cap, cur, rfl, _⟩
    · exact ⟨none, 0, by rw [h0], rfl, hn, .inl h0⟩
    · exact ⟨_, _, rfl, rfl, hn, .inl h0⟩
  · obtain ⟨g, cap, rfl, _, _, hw⟩ := own_wi h (by omega)
    exact ⟨_, _, rfl, wi_ls hw rfl hn⟩
theorem own_keepD {w w' : World} {B : Nat} {v : Value} {L : List Int} (h : OwnD w B v L) (b : Below w.heap.size w w') : OwnD w' B v L :=
  World.ownsRow.kept h (row := none) ⟨b.os, b.tape, b.output, b.size, fun k hk _ => b.block k hk⟩ (Classical.em _)
theorem rAdjust_in (a : Option Addr) (c cap : Nat) (zs : List Int) (day conv : Int) (w : World) (hL : Ls w a c zs) (d0 : 0 ≤ day) (d1 : day < 109573) (c0 : 0 ≤ conv) (c3 : conv ≤ 3) :
    Calls Tryd.prog 45 #[.int .i64 day, .int .i64 conv, .slice a c cap] w fun e w' => AdjE day conv zs e ∧ Below w.heap.size w w' := by
  by_cases h3 : conv = 2
  · subst h3; exact rAdjust_2 a c cap zs day w hL (by omega) (by omega)
  · exact rAdjust_013 a c cap zs day conv w hL (by omega) (by omega) (by omega)
set_option maxRecDepth 100000 in
set_option maxHeartbeats 8000000 in
theorem rschedule_any (y m d y2 m2 d2 N u conv : Int) (a : Option Addr) (n cap : Nat) (ds : List Dt) (w : World) (h : DL w a n ds) :
    Calls Tryd.prog 21 #[.agg #[.int .i64 y, .int .i64 m, .int .i64 d], .agg #[.int .i64 y2, .int .i64 m2, .int .i64 d2], .agg #[.int .i64 N, .int .i64 u], .int .i64 conv, .slice a n cap] w fun e w' => SchO w y m d y2 m2 d2 N u conv ds e w' ∧ Below w.heap.size w w' := by
  obtain ⟨w0, hw0⟩ : ∃ w0, ((w.alloc (.cells #[.int .i64 y, .int .i64 m, .int .i64 d] 35)).alloc (.cells #[.int .i64 y2, .int .i64 m2, .int .i64 d2] 35)).alloc (.cells #[.int .i64 N, .int .i64 u] 37) = w0 := ⟨_, rfl⟩
  have S0 := Lib.hid (p := SBx w w0 y m d y2 m2 d2 N u) (by
    have q := sch_boxes w y m d y2 m2 d2 N u
    simp only [hw0] at q
    obtain ⟨⟨q1, q2, q3⟩, ⟨q4, q5, q6⟩, ⟨q7, q8⟩, q9⟩ := q
    exact ⟨q1, q2, q3, q4, q5, q6, q7, q8, by omega, by rw [← hw0]; exact (((Below.refl _ _).alloc (Nat.le_refl _) _).alloc (by simp) _).alloc (by simp; omega) _⟩)
  have HD := Lib.hid h.2.2
  have LD := Lib.hid (And.intro h.1 h.2.1)
  have KT := Lib.hid (validTenor_any N u w0)
  have KD := Lib.hid (fun Y M D W => refDay_any Y M D W)
  have KA := Lib.hid (fun (i : Nat) W => rAdd_any y m d N u (i : Int) W)
  clear h
  go_enter Tryd.func21, Tryd.ntmps21
  obtain ⟨a0, a1, a2, b0, b1, b2, c0, c1, _, _⟩ := S0.out
  go_wp2_with fail
  try simp only [hw0]
  clear hw0
  go_at_call 42
  refine KT.out.mono ?_
  rintro e w1 ⟨rfl, k1⟩
  have S1 := Lib.hid (S0.out.later k1)
  clear k1 a0 a1 a2 b0 b1 b2 c0 c1 S0
  by_cases hC : tenB N u = true ∧ 0 ≤ conv ∧ conv ≤ 3
  case neg =>
    have HC := Lib.hid hC
    cases ht : tenB N u with
    | false =>
      clear ht hC
      go_wp2
      go_ret2
      exact ⟨sch_nil (.inl ⟨HC.out, rfl, rfl⟩), S1.out.bel⟩
    | true =>
      have hcv : conv < 0 ∨ 3 < conv := by
        by_cases q : conv < 0 ∨ 3 < conv
        · exact q
        · exact absurd ⟨ht, by omega, by omega⟩ hC
      clear ht hC
      rcases hcv with q | q
      · have q1 : decide (conv < 0) = true := decide_eq_true q
        go_wp2
        go_ret2
        exact ⟨sch_nil (.inl ⟨HC.out, rfl, rfl⟩), S1.out.bel⟩
      · have q1 : decide (conv < 0) = false := decide_eq_false (by omega)
        have q2 : decide (3 < conv) = true := decide_eq_true q
        have q3 : ¬ conv < 0 := by omega
        go_wp2
        go_ret2
        exact ⟨sch_nil (.inl ⟨HC.out, rfl, rfl⟩), S1.out.bel⟩
  case pos =>
  have HC := Lib.hid hC
  obtain ⟨ht, v1, v2⟩ := hC
  rw [ht]
  have q1 : decide (conv < 0) = false := decide_eq_false (by omega)
  have q2 : decide (3 < conv) = false := decide_eq_false (by omega)
  have q3 : ¬ conv < 0 := by omega
  have q4 : ¬ 3 < conv := by omega
  clear ht
  obtain ⟨a0, a1, a2, b0, b1, b2, c0, c1, _, _⟩ := S1.out
  go_wp2_with fail
  go_at_call 43
  refine (KD.out y m d w1).mono ?_
  rintro e w2 ⟨rfl, k2⟩
  have S2 := Lib.hid (S1.out.later k2)
  clear k2 a0 a1 a2 b0 b1 b2 c0 c1
  obtain ⟨a0, a1, a2, b0, b1, b2, c0, c1, _, _⟩ := S2.out
  go_wp2_with fail
  go_at_call 43
  refine (KD.out y2 m2 d2 w2).mono ?_
  rintro e w3 ⟨rfl, k3⟩
  have S3 := Lib.hid (S2.out.later k3)
  clear k3 a0 a1 a2 b0 b1 b2 c0 c1
  by_cases hX : exB y m d = true ∧ exB y2 m2 d2 = true
  case neg =>
    have HX := Lib.hid (p := exB y m d = false ∨ exB y2 m2 d2 = false) (by
      cases q : exB y m d with
      | false => exact .inl rfl
      | true =>
        cases q2 : exB y2 m2 d2 with
        | false => exact .inr rfl
        | true => exact absurd ⟨q, q2⟩ hX)
    cases q5 : exB y m d with
    | false =>
      rw [(day_f q5).1, (day_f q5).2]
      clear q5 hX
      go_wp2
      go_ret2
      exact ⟨sch_nil (.inr (.inl ⟨HC.out, HX.out.elim .inl (fun z => .inr (.inl z)), rfl, rfl⟩)), S3.out.bel⟩
    | true =>
      have q6 : exB y2 m2 d2 = false := by
        rcases HX.out with q | q
        · rw [q5] at q; cases q
        · exact q
      rw [(day_t q5).1, (day_t q5).2, (day_f q6).1, (day_f q6).2]
      clear q5 q6 hX
      go_wp2
      go_ret2
      exact ⟨sch_nil (.inr (.inl ⟨HC.out, HX.out.elim .inl (fun z => .inr (.inl z)), rfl, rfl⟩)), S3.out.bel⟩
  case pos =>
  have HX := Lib.hid hX
  rw [(day_t hX.1).1, (day_t hX.1).2, (day_t hX.2).1, (day_t hX.2).2]
  obtain ⟨n1, hn1⟩ : ∃ n1, num y m d = n1 := ⟨_, rfl⟩
  obtain ⟨n2, hn2⟩ : ∃ n2, num y2 m2 d2 = n2 := ⟨_, rfl⟩
  rw [hn1, hn2]
  have HN := Lib.hid (And.intro hn1 hn2)
  clear hn1 hn2 hX
  have nb : n ≤ 5864062014800 := LD.out.2
  go_wp2_with fail
  go_loopw [17, 18] (fun v t wr => ∃ (k : Nat) (xs : List Int), k ≤ n ∧ t = .int .i64 (k : Int) ∧ xs.length = k ∧ RowKit.Hid (OwnD wr w3.heap.size v xs ∧ (∀ i, i < k → exB (ds.getD i (0, 0, 0)).1 (ds.getD i (0, 0, 0)).2.1 (ds.getD i (0, 0, 0)).2.2 = true ∧ xs.getD i 0 = num (ds.getD i (0, 0, 0)).1 (ds.getD i (0, 0, 0)).2.1 (ds.getD i (0, 0, 0)).2.2)) ∧ Below w3.heap.size w3 wr) (fun _ t _ => n - (intOf t).toNat)
  case atStart => exact ⟨0, [], by omega, rfl, rfl, ⟨World.ownsRow_nil _ _ _ _, fun i hi => absurd hi (by omega)⟩, Below.refl _ _⟩
  case round =>
    obtain ⟨k, xs, hk, rfl, hx, hW, hB⟩ := hrel
    rename World => wr
    have BB := Lib.hid hB
    have SR := Lib.hid (S3.out.later hB)
    by_cases hlt : k < n
    · obtain ⟨b, o, rfl, hb, hc⟩ : ∃ b o, a = some ⟨b, o, none⟩ ∧ b < w.heap.size ∧ ∀ i, i < n → DC w b (o + i * 3) (ds.getD i (0, 0, 0)) := by
        rcases HD.out with q | q
        · omega
        · exact q
      obtain ⟨c0, c1, c2⟩ := (hc k hlt).later SR.out.bel hb
      obtain ⟨f, hf⟩ : ∃ f, ds.getD k (0, 0, 0) = f := ⟨_, rfl⟩
      rw [hf] at c0 c1 c2
      obtain ⟨fy, fm, fd⟩ := f
      simp only at c0 c1 c2
      have HF := Lib.hid hf
      have kc : (k : Int) < (n : Int) := by omega
      have kwk : IntKind.i64.wrap ((k : Int) + 1) = (k : Int) + 1 := by simp [IntKind.wrap, IntKind.bits, IntKind.signed]; omega
      have KDW := Lib.hid (KD.out fy fm fd wr)
      have HXS := Lib.hid hW.out.2
      have HO := Lib.hid hW.out.1
      have LX := Lib.hid hx
      clear hc hf hW hB hx
      go_wp2_with fail
      go_at_call 43
      refine KDW.out.mono ?_
      rintro e w4 ⟨rfl, b4⟩
      have B4 := Lib.hid (BB.out.trans (b4.mono BB.out.size))
      have O4 := Lib.hid (own_keepD HO.out b4)
      clear b4 c0 c1 c2
      cases hx2 : exB fy fm fd with
      | true =>
        rw [(day_t hx2).1, (day_t hx2).2]
        have HX2 := Lib.hid hx2
        clear hx2
        go_wp2_with (at_builtin; refine wp_day _ _ rfl _ _ rfl w3.heap.size _ xs rfl rfl O4.out (by have := LX.out; omega) B4.out.size ?_; intro v5 w5 o5 g5; have O5 := Lib.hid o5; have B5 := Lib.hid (B4.out.grown g5 B4.out.size (fun k e => (O4.out.lt k e).1)); clear o5 g5)
        go_roundw
        case rel => exact ⟨k + 1, xs ++ [num fy fm fd], by omega, by first | rfl | simp, by simp [LX.out], ⟨O5.out, fun i hi => by
          by_cases e : i = k
          · subst e
            rw [HF.out]
            exact ⟨HX2.out, by simp only [List.getD]; rw [List.getElem?_append_right (by have := LX.out; omega), LX.out]; simp⟩
          · have := HXS.out i (by omega)
            exact ⟨this.1, by rw [← this.2]; simp only [List.getD]; rw [List.getElem?_append_left (by have := LX.out; omega)]⟩⟩, B5.out⟩
        case measure => simp [intOf]; omega
      | false =>
        rw [(day_f hx2).1, (day_f hx2).2]
        have HX2 := Lib.hid hx2
        clear hx2
        go_wp2
        go_ret2
        exact ⟨sch_nil (.inr (.inl ⟨HC.out, .inr (.inr ⟨k, by have := LD.out.1; omega, by rw [HF.out]; exact HX2.out⟩), rfl, rfl⟩)), S3.out.bel.trans (B4.out.mono S3.out.bel.size)⟩
    · obtain rfl : k = n := by omega
      have kc : ¬ (k : Int) < (k : Int) := by omega
      have hok : NumsOk ds xs := ⟨by have := LD.out.1; omega, fun i hi => hW.out.2 i (by have := LD.out.1; omega)⟩
      have HOK := Lib.hid hok
      obtain ⟨Af, Cf, rfl, hlf⟩ := own_ls hW.out.1 (by omega)
      have LF := Lib.hid hlf
      rw [hx] at hlf ⊢
      clear hB hW hok hlf
      by_cases hgt : n2 < n1
      · have g1 : n1 > n2 := hgt
        go_wp2
        go_ret2
        exact ⟨sch_nil (.inr (.inr (.inl ⟨HC.out, ⟨HX.out.1, HX.out.2, xs, HOK.out⟩, by rw [HN.out.1, HN.out.2]; exact hgt, rfl, rfl⟩))), SR.out.bel⟩
      have g1 : ¬ n1 > n2 := by omega
      have KAJ := Lib.hid (fun W (b : Below wr.heap.size wr W) day (d0 : 0 ≤ day) (d1 : day < 109573) => rAdjust_in Af k Cf xs day conv W (by have := LF.out.later b; rwa [hx] at this) d0 d1 v1 v2)
      go_wp2_with fail
      go_loopw [21, 22] (fun v t wz => ∃ (L rs : List Int), L.length ≤ 109574 ∧ t = .int .i64 (L.length : Int) ∧ RowKit.Hid (RegP y m d N u n2 L ∧ AdjL conv xs L rs) ∧ RowKit.Hid (OwnD wz wr.heap.size v (Lib.compact rs)) ∧ Below wr.heap.size wr wz) (fun _ t _ => 200000 - (intOf t).toNat)
      case atStart => exact ⟨[], [], by simp, rfl, ⟨fun i hi => absurd hi (by simp), rfl, fun i hi => absurd hi (by simp)⟩, World.ownsRow_nil _ _ _ _, Below.refl _ _⟩
      case round =>
        obtain ⟨L, rs, hl, rfl, hR, hO, hB⟩ := hrel
        rename World => wz
        have BZ := Lib.hid hB
        have SZ := Lib.hid (SR.out.later hB)
        have cb : (Lib.compact rs).length ≤ 109574 := by
          have h1 : (Lib.compact rs).length ≤ rs.length := by
            unfold Lib.compact Lib.compactUpTo
            simp only [List.length_map]
            exact Nat.le_trans (List.length_filter_le _ _) (by simp)
          have := hR.out.2.1; omega
        obtain ⟨Ao, Co, hv, lso⟩ := own_ls hO.out (by omega)
        subst hv
        have LSO := Lib.hid lso
        have CS := Lib.hid (fun r => compact_snoc rs r)
        obtain ⟨cl, hcl⟩ : ∃ cl, Lib.compact rs = cl := ⟨_, rfl⟩
        rw [hcl] at CS hO cb LSO ⊢
        have HCL := Lib.hid hcl
        obtain ⟨nc, hnc⟩ : ∃ nc, cl.length = nc := ⟨_, rfl⟩
        rw [hnc] at cb LSO ⊢
        have HNC := Lib.hid hnc
        have HO := Lib.hid (p := OwnD wz wr.heap.size (.slice Ao nc Co) cl) (by rw [← hnc]; exact hO.out)
        clear lso hcl hnc hO
        obtain ⟨a0, a1, a2, b0, b1, b2, c0, c1, _, _⟩ := SZ.out
        have KAW := Lib.hid (KA.out L.length wz)
        obtain ⟨i, hi⟩ : ∃ i, L.length = i := ⟨_, rfl⟩
        rw [hi] at KAW hl
        rw [hi]
        have HI := Lib.hid hi
        have kwi : IntKind.i64.wrap ((i : Int) + 1) = (i : Int) + 1 := by simp [IntKind.wrap, IntKind.bits, IntKind.signed]; omega
        clear hB hi
        go_wp2_with fail
        go_at_call 44
        refine KAW.out.mono ?_
        rintro e wa ⟨Y, M, D, E, rfl, hadd, ba⟩
        obtain ⟨wb, hwb⟩ : ∃ wb, wa.alloc (.cells #[.int .i64 Y, .int .i64 M, .int .i64 D] 35) = wb := ⟨_, rfl⟩
        have BA := Lib.hid (p := Below wa.heap.size wa wb) (by rw [← hwb]; exact (Below.refl _ _).alloc (Nat.le_refl _) _)
        obtain ⟨x0, x1, x2⟩ : wb.cell? ⟨wa.heap.size, 0, none⟩ = some (.int .i64 Y) ∧ wb.cell? ⟨wa.heap.size, 1, none⟩ = some (.int .i64 M) ∧ wb.cell? ⟨wa.heap.size, 2, none⟩ = some (.int .i64 D) := by rw [← hwb]; exact date_box wa Y M D
        have B1 := Lib.hid (p := Below wz.heap.size wz wb) (ba.trans (BA.out.mono ba.size))
        have KDW := Lib.hid (KD.out Y M D wb)
        have HAD := Lib.hid hadd
        clear ba hadd a0 a1 a2 b0 b1 b2 c0 c1
        go_wp2_with fail
        try simp only [hwb]
        clear hwb
        go_at_call 43
        refine KDW.out.mono ?_
        rintro e wd ⟨rfl, bd⟩
        have B2 := Lib.hid (p := Below wz.heap.size wz wd) (B1.out.trans (bd.mono B1.out.size))
        have B3 := Lib.hid (p := Below wr.heap.size wr wd) (BZ.out.trans (B2.out.mono BZ.out.size))
        have O3 := Lib.hid (own_keepD HO.out B2.out)
        have BW3 := Lib.hid (p := Below w.heap.size w wd) (SR.out.bel.trans (B3.out.mono SR.out.bel.size))
        clear bd x0 x1 x2
        have fin : (E ≠ 0 ∨ n2 < num Y M D) → SchA y m d y2 m2 d2 N u conv ds 0 cl := fun q => .inr (.inr (.inr ⟨HC.out, HX.out.1, HX.out.2, by rw [HN.out.1, HN.out.2]; omega, xs, L, HOK.out, by rw [HN.out.2]; exact ⟨hR.out.1, Y, M, D, E, by rw [HI.out]; exact HAD.out, q⟩, .inr ⟨rs, hR.out.2, rfl, HCL.out.symm⟩⟩))
        have FIN := Lib.hid fin
        clear fin
        by_cases hE : E = 0
        · subst hE
          obtain ⟨_, _, q3', q4', _⟩ := add_ok HAD.out
          have nbd := num_bd q4'
          rw [(day_t q4').1, (day_t q4').2]
          obtain ⟨nn, hnn⟩ : ∃ nn, num Y M D = nn := ⟨_, rfl⟩
          rw [hnn] at nbd FIN ⊢
          have HNN := Lib.hid hnn
          clear hnn q4'
          by_cases hg2 : n2 < nn
          · have g3 : decide (n2 < nn) = true := decide_eq_true hg2
            have R := Lib.hid (FIN.out (.inr hg2))
            clear FIN
            go_wp2
            go_ret2
            exact ⟨⟨_, 0, _, rfl, R.out, row_base O3.out SR.out.bel.size⟩, BW3.out⟩
          · have g3 : decide (n2 < nn) = false := decide_eq_false hg2
            have KAW2 := Lib.hid (KAJ.out wd B3.out nn (by omega) (by omega))
            have RP := Lib.hid (hR.out.1.snoc (by rw [HI.out]; exact HAD.out) (by rw [HNN.out]; omega))
            clear FIN
            go_wp2_with fail
            go_at_call 45
            refine KAW2.out.mono ?_
            rintro e we ⟨⟨r, x, rfl, hadj⟩, be⟩
            have B4 := Lib.hid (B3.out.trans (be.mono B3.out.size))
            have O4 := Lib.hid (own_keepD O3.out be)
            have be2 := Lib.hid be
            have HAJ := Lib.hid hadj
            have BW4 := Lib.hid (p := Below w.heap.size w we) (SR.out.bel.trans (B4.out.mono SR.out.bel.size))
            clear be hadj
            by_cases hx0 : x = 0
            · subst hx0
              have AL := Lib.hid (p := AdjL conv xs (L ++ [nn]) (rs ++ [r])) ⟨by simp [hR.out.2.1], fun j hj => by
                by_cases e : j < L.length
                · have ra := hR.out.2.1
                  have := hR.out.2.2 j e
                  simp only [List.getD] at this ⊢
                  rw [List.getElem?_append_left e, List.getElem?_append_left (by omega)]
                  exact this
                · have ej : j = L.length := by simp at hj; omega
                  subst ej
                  have g1 : (L ++ [nn]).getD L.length 0 = nn := by simp [List.getD]
                  have g2 : (rs ++ [r]).getD L.length 0 = r := by rw [← hR.out.2.1]; simp [List.getD]
                  rw [g1, g2]; exact HAJ.out⟩
              have CR := Lib.hid (CS.out r)
              have SL := Lib.hid (p := (L ++ [nn]).length = i + 1) (by have := HI.out; simp; omega)
              rw [HNN.out] at RP
              clear hR CS
              by_cases hc0 : nc = 0
              · have CE := Lib.hid (p := Lib.compact (rs ++ [r]) = cl ++ [r]) (by rw [CR.out, if_pos (.inl (by rw [HNC.out]; exact hc0))])
                have g5 : ((nc : Int) == 0) = true := by simp [hc0]
                have g6 : (nc == 0) = true := by simp [hc0]
                clear hc0
                go_wp2_with (at_builtin; refine wp_day _ _ rfl _ _ rfl wr.heap.size _ cl rfl rfl O4.out (by have := HNC.out; omega) B4.out.size ?_; intro v6 w6 o6 g6'; have O6 := Lib.hid o6; have B6 := Lib.hid (B4.out.grown g6' B4.out.size (fun k e => (O4.out.lt k e).1)); clear o6 g6')
                go_roundw
                case rel => exact ⟨L ++ [nn], rs ++ [r], by rw [SL.out]; omega, by rw [SL.out]; simp, ⟨RP.out, AL.out⟩, by rw [CE.out]; exact O6.out, B6.out⟩
                case measure => simp [intOf]; omega
              · have ls4 := LSO.out.later (B2.out.trans (be2.out.mono B2.out.size))
                obtain ⟨lb, lo, rfl, hlb, hlc⟩ : ∃ b o, Ao = some ⟨b, o, none⟩ ∧ b < we.heap.size ∧ ∀ i, i < nc → we.cell? ⟨b, o + i, none⟩ = some (.int .i64 (cl.getD i 0)) := by
                  rcases ls4.2.2 with q | q
                  · exact absurd q hc0
                  · exact q
                obtain ⟨m1, hm1⟩ : ∃ m1, nc = m1 + 1 := ⟨nc - 1, by omega⟩
                have lv := hlc m1 (by omega)
                obtain ⟨qv, hqv⟩ : ∃ qv, cl.getD m1 0 = qv := ⟨_, rfl⟩
                rw [hqv] at lv
                have g5 : ((nc : Int) == 0) = false := by simp; omega
                have g6 : (nc == 0) = false := by simp; omega
                have g7 : (nc : Int) - 1 = (m1 : Int) := by omega
                have g8 : IntKind.i64.wrap ((nc : Int) - 1) = (m1 : Int) := by simp [IntKind.wrap, IntKind.bits, IntKind.signed]; omega
                have g9 : (m1 : Int) < (nc : Int) := by omega
                have hq1 : cl.getD (cl.length - 1) 0 = qv := by rw [HNC.out, hm1]; exact hqv
                have HQ := Lib.hid hq1
                have HM1 := Lib.hid hm1
                clear hc0 ls4 hlc hqv hq1 hm1
                by_cases hqr : qv = r
                · subst hqr
                  have CE := Lib.hid (p := Lib.compact (rs ++ [qv]) = cl) (by
                    rw [CR.out, if_neg]
                    rintro (p | p)
                    · have := HNC.out; have := HM1.out; omega
                    · exact p HQ.out)
                  go_wp2
                  go_roundw
                  case rel => exact ⟨L ++ [nn], rs ++ [qv], by rw [SL.out]; omega, by rw [SL.out]; simp, ⟨RP.out, AL.out⟩, by rw [CE.out]; exact O4.out, B4.out⟩
                  case measure => simp [intOf]; omega
                · have h1 : (qv != r) = true := by simpa using hqr
                  have h2 : (qv == r) = false := by simpa using hqr
                  have CE := Lib.hid (p := Lib.compact (rs ++ [r]) = cl ++ [r]) (by rw [CR.out, if_pos (.inr (by rw [HQ.out]; exact hqr))])
                  clear hqr
                  go_wp2_with (at_builtin; refine wp_day _ _ rfl _ _ rfl wr.heap.size _ cl rfl rfl O4.out (by have := HNC.out; omega) B4.out.size ?_; intro v6 w6 o6 g6'; have O6 := Lib.hid o6; have B6 := Lib.hid (B4.out.grown g6' B4.out.size (fun k e => (O4.out.lt k e).1)); clear o6 g6')
                  go_roundw
                  case rel => exact ⟨L ++ [nn], rs ++ [r], by rw [SL.out]; omega, by rw [SL.out]; simp, ⟨RP.out, AL.out⟩, by rw [CE.out]; exact O6.out, B6.out⟩
                  case measure => simp [intOf]; omega
            · have g4 : (x != 0) = true := by simpa using hx0
              obtain ⟨M2, hM2⟩ := reg_ex w (109575 - (i + 1)) RP.out (by have := HI.out; simp; omega)
              have ER := Lib.hid (p := SchA y m d y2 m2 d2 N u conv ds 2 []) (.inr (.inr (.inr ⟨HC.out, HX.out.1, HX.out.2, by rw [HN.out.1, HN.out.2]; omega, xs, _, HOK.out, by rw [HN.out.2]; exact hM2, .inl ⟨⟨i, r, x, by have := HI.out; simp; omega, by
                have e : ((L ++ [num Y M D]) ++ M2).getD i 0 = nn := by
                  rw [← HI.out, HNN.out]; simp [List.getD]
                rw [e]; exact HAJ.out, hx0⟩, rfl, rfl⟩⟩)))
              clear hM2 hx0
              go_wp2
              go_ret2
              exact ⟨sch_nil ER.out, BW4.out⟩
        · have g3 : (E != 0) = true := by simpa using hE
          have hexf : exB Y M D = false := add_bad HAD.out hE
          rw [(day_f hexf).1, (day_f hexf).2]
          have R := Lib.hid (FIN.out (.inl hE))
          clear FIN
          go_wp2
          go_ret2
          exact ⟨⟨_, 0, _, rfl, R.out, row_base O3.out SR.out.bel.size⟩, BW3.out⟩
end Go.Proofs.YtpeglcnenagkbaaDoor
