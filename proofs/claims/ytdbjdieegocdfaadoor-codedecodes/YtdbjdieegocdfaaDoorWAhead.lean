/-
  WALK: ahead (the document's reading of a varint).
-/
import Derived.Test.YtdbjdieegocdfaaDoorWOct7
namespace Go.Proofs.YtdbjdieegocdfaaDoor
open Go.RowKit
set_option linter.unusedVariables false
set_option linter.unusedSimpArgs false

/-- What the groups of bytes come to. -/
def vv : List Int → Nat
  | [] => 0
  | c :: cs => c.toNat % 128 + 128 * vv cs
theorem vv_vl : ∀ x : Nat, vv (vl x) = x := by
  intro x
  induction x using Nat.strongRecOn with
  | _ x ih =>
    by_cases h : x < 128
    · rw [vl_one h]; simp [vv]; omega
    · rw [vl_more (by omega)]
      show ((x % 128 + 128 : Nat) : Int).toNat % 128 + 128 * vv (vl (x / 128)) = x
      rw [ih (x / 128) (by omega)]
      simp; omega
/-- All bytes of a varint but the last have 128 in them. -/
theorem vl_shape : ∀ (x j : Nat), j < (vl x).length → (j + 1 < (vl x).length → 128 ≤ (vl x).getD j 0) ∧ (j + 1 = (vl x).length → (vl x).getD j 0 < 128) := by
  intro x
  induction x using Nat.strongRecOn with
  | _ x ih =>
    intro j hj
    by_cases h : x < 128
    · rw [vl_one h] at hj ⊢
      simp at hj
      subst hj
      simp; omega
    · rw [vl_more (by omega)] at hj ⊢
      match j with
      | 0 =>
        have := vl_pos (x / 128)
        refine ⟨fun _ => by simp; omega, fun e => ?_⟩
        simp only [List.length_cons] at e
        omega
      | j + 1 =>
        simp at hj
        have := ih (x / 128) (by omega) j hj
        simpa using this
theorem rdf_not41 : ∀ (xs : List Int) (K i : Nat), K < xs.length → i + K < 10 → (∀ j, j < K → 128 ≤ xs.getD j 0) → xs.getD K 0 < 128 → (rdf i xs).2.2 ≠ 41
  | [], K, i, h, _, _, _ => by simp at h
  | c :: cs, 0, i, _, hi, _, hc => by
    simp at hc
    rw [rdf, if_neg (by omega), if_neg (by omega)]
    split <;> simp
  | c :: cs, K + 1, i, h, hi, hj, hc => by
    have h0 := hj 0 (by omega)
    simp at h0
    have := rdf_not41 cs K (i + 1) (by simpa using h) (by omega) (fun j hj' => by have := hj (j + 1) (by omega); simpa using this) (by simpa using hc)
    rw [rdf, if_neg (by omega), if_pos h0]
    split
    · simp
    · exact this
/-- A varint that is read is as long as its groups say. -/
theorem rd_groups {xs : List Int} {K : Nat} (hb : ∀ c ∈ xs, 0 ≤ c ∧ c ≤ 255) (hK : K < xs.length) (hj : ∀ j, j < K → 128 ≤ xs.getD j 0) (hc : xs.getD K 0 < 128) (h : (rd xs).2.2 = 0) :
    (rd xs).2.1 = K + 1 ∧ vl (rd xs).1 = xs.take (K + 1) ∧ vv (xs.take (K + 1)) = (rd xs).1 ∧ (rd xs).1 < 18446744073709551616 := by
  obtain ⟨a1, a2, a3, a4, a5⟩ := rd_only hb h
  have hl : (vl (rd xs).1).length = (rd xs).2.1 := by rw [a1]; simp; omega
  have hg : ∀ j, j < (rd xs).2.1 → (vl (rd xs).1).getD j 0 = xs.getD j 0 := fun j hj => by rw [a1]; simp [List.getD, hj]
  have hm : (rd xs).2.1 = K + 1 := by
    rcases Nat.lt_trichotomy (rd xs).2.1 (K + 1) with q | q | q
    · have s := vl_shape (rd xs).1 ((rd xs).2.1 - 1) (by omega)
      have := s.2 (by omega)
      rw [hg _ (by omega)] at this
      have := hj ((rd xs).2.1 - 1) (by omega)
      omega
    · exact q
    · have s := vl_shape (rd xs).1 K (by omega)
      have := s.1 (by omega)
      rw [hg _ (by omega)] at this
      omega
  rw [hm] at a1
  exact ⟨hm, a1, by rw [← a1, vv_vl], a5⟩
theorem rd_match {xs : List Int} {K x : Nat} (hx : x < 18446744073709551616) (h : vl x = xs.take (K + 1)) : rd xs = (x, (vl x).length, 0) := by
  have := rd_vl x hx (xs.drop (K + 1))
  rwa [h, List.take_append_drop, ← h] at this
/-- The two readings agree. -/
theorem uR_ok {xs : List Int} {lim x K : Nat} (h : rd xs = (x, K + 1, 0)) (hl : x ≤ lim) : uR xs lim = (x, 0, K + 1) := by unfold uR; rw [h]; simp; omega
theorem uR_over {xs : List Int} {lim x K : Nat} (h : rd xs = (x, K + 1, 0)) (hl : lim < x) : uR xs lim = (0, 42, 0) := by unfold uR; rw [h]; simp [hl]
theorem uR_err {xs : List Int} {lim : Nat} {er : Int} (h : (rd xs).2.2 = er) (he : er ≠ 0) : uR xs lim = (0, er, 0) := by unfold uR; rw [h]; simp [he]
theorem rdf_long : ∀ (xs : List Int) (i K : Nat), i + K = 10 → K ≤ xs.length → (∀ j, j < K → 128 ≤ xs.getD j 0) → (rdf i xs).2.2 = 42
  | xs, i, 0, hi, _, _ => by rw [rdf_end (by omega)]
  | [], i, K + 1, _, h, _ => by simp at h
  | c :: cs, i, K + 1, hi, h, hj => by
    have h0 := hj 0 (by omega)
    simp at h0
    have := rdf_long cs (i + 1) K (by omega) (by simpa using h) (fun j hj' => by have := hj (j + 1) (by omega); simpa using this)
    rw [rdf, if_neg (by omega), if_pos h0, if_neg (by rw [this]; decide)]
    exact this
theorem rdf_all : ∀ (xs : List Int) (i : Nat), i + xs.length < 10 → (∀ j, j < xs.length → 128 ≤ xs.getD j 0) → (rdf i xs).2.2 = 41
  | [], i, hi, _ => by rw [rdf_nil (by simpa using hi)]
  | c :: cs, i, hi, hj => by
    have h0 := hj 0 (by simp)
    simp at h0 hi
    have := rdf_all cs (i + 1) (by omega) (fun j hj' => by have := hj (j + 1) (by simp; omega); simpa using this)
    rw [rdf, if_neg (by omega), if_pos h0, if_neg (by rw [this]; decide)]
    exact this
theorem vv_step {xs : List Int} {K j : Nat} (hK : K < xs.length) (hj : j ≤ K) : vv ((xs.take (K + 1)).drop j) = (xs.getD j 0).toNat % 128 + 128 * vv ((xs.take (K + 1)).drop (j + 1)) := by
  have hl : j < (xs.take (K + 1)).length := by simp; omega
  rw [List.drop_eq_getElem_cons hl]
  show ((xs.take (K + 1))[j]).toNat % 128 + _ = _
  congr 3
  simp [List.getD, show j < xs.length by omega]
def RetA (xs : List Int) (lim : Nat) (e : Ending) : Prop := e = .returned (.tuple #[.int .u64 ((uR xs lim).1 : Int), .int .i64 ((uR xs lim).2.2 : Int), .int .i64 (uR xs lim).2.1])
theorem retA {xs : List Int} {lim x m : Nat} {er : Int} (h : uR xs lim = (x, er, m)) : RetA xs lim (.returned (.tuple #[.int .u64 (x : Int), .int .i64 (m : Int), .int .i64 er])) := by unfold RetA; rw [h]

set_option maxRecDepth 100000 in
set_option maxHeartbeats 4000000 in
theorem ahead_any (a : Option Addr) (n cap : Nat) (xs : List Int) (lim : Nat) (w : World) (h : BL w a n xs) :
    Calls Tryd.prog 37 #[.slice a n cap, .int .u64 (lim : Int)] w fun e w' => RetA xs lim e ∧ Below w.heap.size w w' := by
  obtain ⟨h1, h2, h3, h4⟩ := h
  have H1 := Lib.hid h1
  have H3 := Lib.hid h3
  have HA := Lib.hid (p := 0 < n → ∃ b o, a = some ⟨b, o, none⟩ ∧ b < w.heap.size ∧ ∀ i, i < n → w.cell? ⟨b, o + i, none⟩ = some (.int .u8 (xs.getD i 0))) (fun h0 => by
    rcases h4 with h4 | h4
    · omega
    · exact h4)
  have B0 := Lib.hid (p := ∀ j, j < n → 0 ≤ xs.getD j 0 ∧ xs.getD j 0 ≤ 255) (fun j hj => h3 _ (by simp [List.getD, show j < xs.length by omega]))
  clear h1 h3 h4
  go_enter Tryd.func37, Tryd.ntmps37
  go_wp2
  go_loop [7] (fun t => ∃ k : Nat, k ≤ n ∧ k ≤ 10 ∧ t = .int .i64 (k : Int) ∧ RowKit.Hid (∀ j, j < k → 128 ≤ xs.getD j 0)) (fun t => n - (intOf t).toNat)
  case atStart => exact ⟨0, by omega, by omega, rfl, fun j hj => absurd hj (by omega)⟩
  case round =>
    obtain ⟨k, hk, hk10, rfl, hJ⟩ := hrel
    by_cases hn : k = n
    · subst hn
      have k1 : ¬ (k : Int) < (k : Int) := by omega
      have R := Lib.hid (p := uR xs lim = (0, (if k = 10 then 42 else 41), 0)) (by
        by_cases q : k = 10
        · rw [if_pos q]; exact uR_err (rdf_long xs 0 k (by omega) (by rw [H1.out]; omega) hJ.out) (by decide)
        · rw [if_neg q]; exact uR_err (rdf_all xs 0 (by rw [H1.out]; omega) (fun j hj => hJ.out j (by rw [H1.out] at hj; exact hj))) (by decide))
      by_cases q : k = 10
      · rw [if_pos q] at R
        subst q
        go_wp2
        go_ret3
        exact ⟨retA R.out, Below.refl _ _⟩
      · rw [if_neg q] at R
        have q1 : ((k : Int) == 10) = false := by simp; omega
        go_wp2
        go_ret3
        exact ⟨retA R.out, Below.refl _ _⟩
    · have k1 : (k : Int) < (n : Int) := by omega
      obtain ⟨b, o, rfl, hb, hc⟩ := HA.out (by omega)
      by_cases q : k = 10
      · have R := Lib.hid (p := uR xs lim = (0, 42, 0)) (uR_err (rdf_long xs 0 k (by omega) (by rw [H1.out]; omega) hJ.out) (by decide))
        subst q
        go_wp2
        go_ret3
        exact ⟨retA R.out, Below.refl _ _⟩
      · have k2 : (k : Int) < 10 := by omega
        have k2d : decide ((k : Int) < 10) = true := decide_eq_true k2
        have k1d : decide ((k : Int) < (n : Int)) = true := decide_eq_true k1
        have cc := hc k (by omega)
        by_cases g : 128 ≤ xs.getD k 0
        · have NX := Lib.hid (p := ∀ j, j < k + 1 → 128 ≤ xs.getD j 0) (fun j hj => by
            rcases (show j < k ∨ j = k by omega) with r | r
            · exact hJ.out j r
            · rw [r]; exact g)
          have g1 : ¬ xs.getD k 0 < 128 := by omega
          generalize xs.getD k 0 = c at *
          go_wp2
          go_round
          case rel => exact ⟨k + 1, by omega, by omega, by go_num, NX.out⟩
          case measure => simp [intOf]; omega
        · have g1 : xs.getD k 0 < 128 := by omega
          have hkl : k < xs.length := by rw [H1.out]; omega
          have N41 := Lib.hid (rdf_not41 xs k 0 hkl (by omega) hJ.out g1)
          have RG := Lib.hid (rd_groups (K := k) H3.out hkl hJ.out g1)
          have VS := Lib.hid (p := ∀ j, j ≤ k → vv ((xs.take (k + 1)).drop j) = (xs.getD j 0).toNat % 128 + 128 * vv ((xs.take (k + 1)).drop (j + 1))) (fun j hj => vv_step hkl hj)
          have VN := Lib.hid (p := vv ((xs.take (k + 1)).drop (k + 1)) = 0) (by rw [List.drop_of_length_le (by simp; omega)]; rfl)
          have k3 : ((k : Int) == 10) = false := by simp; omega
          have k4 : ((k : Int) == (n : Int)) = false := by simp; omega
          have HC := Lib.hid hc
          have G1 := Lib.hid g1
          have TL := Lib.hid (p := (xs.take (k + 1)).length = k + 1) (by simp; omega)
          have TG := Lib.hid (p := ∀ j, j < k + 1 → (xs.take (k + 1)).getD j 0 = xs.getD j 0) (fun j hj => by simp [List.getD, hj])
          clear hc
          generalize xs.getD k 0 = c at cc g1
          go_wp2
          clear cc g1
          go_loop [8, 9] (fun s t => ∃ (j X : Nat), j ≤ k + 1 ∧ s = .int .u64 (X : Int) ∧ t = .int .i64 ((j : Int) - 1) ∧ RowKit.Hid (X = vv ((xs.take (k + 1)).drop j) % 18446744073709551616)) (fun _ t => (intOf t + 1).toNat)
          case atStart => exact ⟨k + 1, 0, by omega, rfl, by first | (congr 1; omega) | (simp; done), (by show (0 : Nat) = _; rw [VN.out])⟩
          case round =>
            obtain ⟨j, X, hj, rfl, rfl, hX⟩ := hrel
            have X64 : X < 18446744073709551616 := by have := hX.out; omega
            match j, hj, hX with
            | 0, hj, hX =>
              have XV := Lib.hid (p := X = vv (xs.take (k + 1)) % 18446744073709551616) (by have := hX.out; simpa using this)
              have OKX := Lib.hid (p := (rd xs).2.2 = 0 → rd xs = (X, k + 1, 0) ∧ vl X = xs.take (k + 1)) (fun q => by
                obtain ⟨q1, q2, q3, q4⟩ := RG.out q
                have e : X = (rd xs).1 := by rw [XV.out, q3, Nat.mod_eq_of_lt q4]
                rw [e]
                exact ⟨by rw [← q1, ← q], q2⟩)
              have ERR := Lib.hid (p := (rd xs).2.2 ≠ 0 → uR xs lim = (0, 42, 0)) (fun q => uR_err (by
                rcases rdf_codes xs 0 with r | r | r
                · exact absurd r q
                · exact absurd r N41.out
                · exact r) (by decide))
              have KV := Lib.hid (varintR_any X w X64)
              have l10 := vl_len10 X64
              have lp := vl_pos X
              have LX := Lib.hid (p := (vl X).length ≠ k + 1 → uR xs lim = (0, 42, 0)) (fun q => ERR.out (fun r => q (by rw [(OKX.out r).2, TL.out])))
              have GX := Lib.hid (p := lim < X → uR xs lim = (0, 42, 0)) (fun q => by
                by_cases r : (rd xs).2.2 = 0
                · exact uR_over (OKX.out r).1 q
                · exact ERR.out r)
              have MIS := Lib.hid (p := ∀ i, i < k + 1 → (vl X).getD i 0 ≠ xs.getD i 0 → uR xs lim = (0, 42, 0)) (fun i hi q => ERR.out (fun r => q (by rw [(OKX.out r).2, TG.out i hi])))
              have FIN := Lib.hid (p := X ≤ lim → (vl X).length = k + 1 → (∀ i, i < k + 1 → (vl X).getD i 0 = xs.getD i 0) → uR xs lim = (X, 0, k + 1)) (fun q ql qe => by
                have e : vl X = xs.take (k + 1) := list_eq_of (by rw [ql, TL.out]) (fun i hi => by rw [TG.out i (by omega)]; exact qe i (by omega))
                have := rd_match X64 e
                rw [ql] at this
                exact uR_ok this q)
              have CV := Lib.hid (p := ∀ i, i < (vl X).length → (vl X).getD i 0 = (vl X).getD i 0) (fun _ _ => rfl)
              generalize hm : (vl X).length = m at *
              have HM := Lib.hid hm
              generalize vl X = vs at *
              clear hX hm OKX ERR XV
              have kw : IntKind.i64.wrap ((k : Int) + 1) = (k : Int) + 1 := by simp [IntKind.wrap, IntKind.bits, IntKind.signed]; omega
              have z1 : ¬ (0 : Int) ≤ ((0 : Nat) : Int) - 1 := by omega
              by_cases hmk : m = k + 1
              · subst hmk
                have m1 : (((k + 1 : Nat) : Int) == (k : Int) + 1) = true := by simp
                have m2 : (((k + 1 : Nat) : Int) != (k : Int) + 1) = false := by simp
                by_cases hg : lim < X
                · have R := Lib.hid (GX.out hg)
                  have hg' : (lim : Int) < (X : Int) := by omega
                  have hgd : decide ((lim : Int) < (X : Int)) = true := decide_eq_true hg'
                  go_wp2_with (go_at_call 15; refine KV.out.mono ?_; rintro e w1 ⟨v1, rfl, o1, b1⟩; obtain ⟨a1, cp1, rfl⟩ := own_form o1; have B1 := Lib.hid b1; clear o1 b1)
                  go_ret3
                  exact ⟨retA R.out, B1.out⟩
                · have hg' : ¬ (lim : Int) < (X : Int) := by omega
                  have hgd : decide ((lim : Int) < (X : Int)) = false := decide_eq_false hg'
                  go_wp2_with (go_at_call 15; refine KV.out.mono ?_; rintro e w1 ⟨v1, rfl, o1, b1⟩; obtain ⟨g1, cp1, hv1⟩ : ∃ g c, v1 = .slice (some ⟨g, 0, none⟩) (k + 1) c := (by rcases o1.2 with ⟨_, q⟩ | ⟨g, c, _, q, _⟩; omega; exact ⟨g, c, q⟩); subst hv1; have O1 := Lib.hid o1; have B1 := Lib.hid b1; clear o1 b1)
                  go_loopw [11] (fun t wr => ∃ j : Nat, j ≤ k + 1 ∧ t = .int .i64 (j : Int) ∧ RowKit.Hid (∀ i, i < j → vs.getD i 0 = xs.getD i 0) ∧ ∃ q, wr = w1.drewN q) (fun t _ => k + 1 - (intOf t).toNat)
                  case atStart => exact ⟨0, by omega, rfl, fun i hi => absurd hi (by omega), 0, rfl⟩
                  case round =>
                    obtain ⟨j, hj, rfl, hE, q, rfl⟩ := hrel
                    by_cases hlt : j < k + 1
                    · have jc : (j : Int) < ((k + 1 : Nat) : Int) := by omega
                      have jc2 : (j : Int) < (k : Int) + 1 := by omega
                      have jn : (j : Int) < (n : Int) := by omega
                      have d1 := (own_cell O1.out j hlt).1
                      have d2 := (B1.out.cell (p := ⟨b, o + j, none⟩) hb).trans (HC.out j (by omega))
                      by_cases e : vs.getD j 0 = xs.getD j 0
                      · have NX := Lib.hid (p := ∀ i, i < j + 1 → vs.getD i 0 = xs.getD i 0) (fun i hi => by
                          rcases (show i < j ∨ i = j by omega) with r | r
                          · exact hE.out i r
                          · rw [r]; exact e)
                        rw [e] at d1
                        generalize xs.getD j 0 = z at *
                        clear e
                        go_wp2
                        go_quiet (fail)
                        go_wp2
                        go_roundw
                        case rel => exact ⟨j + 1, by omega, by go_num, NX.out, _, rfl⟩
                        case measure => simp [intOf]; omega
                      · have R := Lib.hid (MIS.out j hlt e)
                        have e2 : (vs.getD j 0 != xs.getD j 0) = true := by simpa using e
                        have e3 : (vs.getD j 0 == xs.getD j 0) = false := by simpa using e
                        generalize xs.getD j 0 = z at *
                        generalize vs.getD j 0 = z' at *
                        go_wp2
                        go_quiet (fail)
                        go_wp2
                        go_ret3
                        exact ⟨retA R.out, by first | exact below_drewN B1.out _ | exact below_drewN (below_drewN B1.out _) _⟩
                    · obtain rfl : j = k + 1 := by omega
                      have R := Lib.hid (FIN.out (by omega) (by first | rfl | trivial) hE.out)
                      have jc2 : ¬ (k : Int) + 1 < (k : Int) + 1 := by omega
                      go_wp2
                      go_ret3
                      exact ⟨by first | exact retA R.out | (have q := retA R.out; simpa using q), below_drewN B1.out _⟩
              · have R := Lib.hid (LX.out hmk)
                have m1 : ((m : Int) == (k : Int) + 1) = false := by simp; omega
                have m2 : ((m : Int) != (k : Int) + 1) = true := by simp; omega
                go_wp2_with (go_at_call 15; refine KV.out.mono ?_; rintro e w1 ⟨v1, rfl, o1, b1⟩; obtain ⟨a1, cp1, rfl⟩ := own_form o1; have B1 := Lib.hid b1; clear o1 b1)
                go_ret3
                exact ⟨retA R.out, B1.out⟩
            | j + 1, hj, hX =>
              have cj := HC.out j (by omega)
              obtain ⟨bj0, bj1⟩ := B0.out j (by omega)
              have VJ := Lib.hid (VS.out j (by omega))
              have e1 : ((j + 1 : Nat) : Int) - 1 = (j : Int) := by omega
              rw [e1]
              obtain ⟨d, hd⟩ : ∃ d : Nat, xs.getD j 0 = (d : Int) := ⟨(xs.getD j 0).toNat, by omega⟩
              rw [hd] at cj bj0 bj1 VJ
              have j0 : ¬ (j : Int) < 0 := by omega
              have jn : (j : Int) < (n : Int) := by omega
              obtain ⟨r, hr⟩ : ∃ r : Nat, d % 128 = r := ⟨_, rfl⟩
              have r1 : Int.tmod (d : Int) 128 = (r : Int) := by rw [Int.tmod_eq_emod_of_nonneg (by omega)]; omega
              have r2 : (d : Int) % 128 = (r : Int) := by omega
              obtain ⟨Y, hY⟩ : ∃ Y : Nat, (X * 128 + r) % 18446744073709551616 = Y := ⟨_, rfl⟩
              have y1 : IntKind.u64.wrap ((X : Int) * 128) = (((X * 128) % 18446744073709551616 : Nat) : Int) := by simp [IntKind.wrap, IntKind.bits, IntKind.signed]
              have y2 : IntKind.u64.wrap ((((X * 128) % 18446744073709551616 : Nat) : Int) + (r : Int)) = (Y : Int) := by simp [IntKind.wrap, IntKind.bits, IntKind.signed]; omega
              have NX := Lib.hid (p := Y = vv ((xs.take (k + 1)).drop j) % 18446744073709551616) (by
                have := hX.out
                rw [VJ.out]
                simp only [Int.toNat_natCast]
                rw [hr, ← hY, this]
                omega)
              have R128 : r < 128 := by omega
              generalize hZ : (X * 128) % 18446744073709551616 = Z at *
              clear hd hr hY hZ hX
              go_wp2
              go_round
              case rel => exact ⟨j, Y, by omega, rfl, by go_num, NX.out⟩
              case measure => simp [intOf]
end Go.Proofs.YtdbjdieegocdfaaDoor
