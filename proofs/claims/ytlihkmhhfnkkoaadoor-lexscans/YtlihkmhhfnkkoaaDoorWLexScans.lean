/-
  WALK: LexScans.
-/
import Derived.Test.YtlihkmhhfnkkoaaDoorWLexK
namespace Go.Proofs.YtlihkmhhfnkkoaaDoor
open Go.RowKit Lx
set_option linter.unusedVariables false
set_option linter.unusedSimpArgs false

theorem tx_n {w w' : World} {B n : Nat} {a : Option Addr} {cap : Nat} {ts : List Tok} (hn : ts.length = n) (h : SL w w' (.slice a n cap) a cap ts) (hB : B ≤ w.heap.size) : TX w' B a n ts := by
  subst hn; exact tx_of (v := .int .i64 0) h hB
theorem own_elem {w : World} {B n cap g o k : Nat} {ts : List Tok} (h : OwT w B (.slice (some ⟨g, o, none⟩) n cap) ts) (hk : k < ts.length) (h65 : ts.length ≤ 65536) : TK w g (k * 9) (ts.getD k default) ∧ (∀ i, w.frozen? ⟨g, i, none⟩ = false) ∧ n ≤ cap ∧ n = ts.length := by
  obtain ⟨a, c, e, ht⟩ := tl_of_own h h65
  injection e with e1 e2 e3
  subst e1 e2 e3
  rcases h.2 with ⟨h1, h2⟩ | ⟨g', c', cur, h1, hb, hg, hn, hm, hs, hx⟩
  · cases h1
  · injection h1 with h1 h3 h4
    injection h1 with h1
    injection h1 with h1 h5
    subst h1 h4 h5
    rcases ht.2.2 with h3 | ⟨x, o', e, hx, hc⟩
    · omega
    · injection e with e
      injection e with e1 e2
      subst e1 e2
      have := hc k hk
      rw [Nat.zero_add] at this
      exact ⟨this, fun i => Joins.unfrozen_of_block hg i, hn, rfl⟩
/-- Where the loop that writes over stands. -/
structure OV (w w6 wr : World) (a : Option Addr) (n cap k : Nat) (ts : List Tok) : Prop where
  ow : OwT wr w.heap.size (.slice a n cap) (ovr k ts)
  gr : w6.grownBy wr (Value.ownBlock (.slice a n cap))
theorem grow_none {a b : World} (r : Option Nat) (h : Below a.heap.size a b) : a.grownBy b r := ⟨h.os, h.tape, h.output, h.size, fun k hk _ => h.block k hk⟩
theorem OV.step {w w6 wr : World} {g n cap k : Nat} {ts : List Tok} (h : OV w w6 wr (some ⟨g, 0, none⟩) n cap k ts) (hk : k < ts.length) : OV w w6 (W9 wr g (k * 9) (.int .i64 99) (.string ⟨#[]⟩) (.int .i64 0) (.int .i64 0) (.int .i64 0) (.int .i64 0) (.int .i64 0) (.int .i64 0) (.int .i64 0)) (some ⟨g, 0, none⟩) n cap (k + 1) ts :=
  ⟨by rw [← ovr_next hk]; exact OwT.set h.ow (by rw [ovr_len (Nat.le_of_lt hk)]; exact hk) T99 ⟨#[]⟩ rfl, grown_trans h.gr (W9.grown wr g (k * 9) _ _ _ _ _ _ _ _ _)⟩
theorem ExtT.more {B : Nat} {w w1 w2 : World} {v v1 v2 : Value} {xs : List Tok} {j : Nat} (h : ExtT B w v xs w1 v1 (xs ++ List.replicate j T98)) (k : ExtT B w1 v1 (xs ++ List.replicate j T98) w2 v2 (xs ++ List.replicate j T98 ++ [T98])) : ExtT B w v xs w2 v2 (xs ++ List.replicate (j + 1) T98) := by
  have := ExtT.step h k
  rw [List.append_assoc, ← List.replicate_succ'] at this
  exact this
theorem rep_at (k j i : Nat) (h : k ≤ i) (h2 : i < k + j) : (List.replicate k T99 ++ List.replicate j T98).getD i default = T98 := by
  rw [List.getD_eq_getElem?_getD, List.getElem?_append_right (by simpa using h), List.length_replicate, List.getElem?_replicate, if_pos (by omega)]
  rfl
theorem sameQ {w : World} {B : Nat} {a b : Option Addr} {n c1 c2 : Nat} {ts : List Tok} (h : TX w B a n ts) (h' : TX w B b n ts) (x : Nat) :
    Calls Tryd.prog 6 #[.slice a n c1, .slice b n c2] (w.drewN x) fun e w' => e = .returned (.bool true) ∧ ∃ q, w' = w.drewN (x + q) := by
  have l := h.tl.later (below_q x)
  have l' := h'.tl.later (below_q x)
  refine (sameTok_any a b n c1 c2 ts (w.drewN x) l l').mono ?_
  rintro e w' ⟨rfl, q, rfl⟩
  exact ⟨rfl, q, by simp [World.drewN]; omega⟩
set_option maxRecDepth 100000 in
set_option maxHeartbeats 2000000 in
theorem lexScans_go (s : ByteArray) (w : World) (hM : Mon w) (hE : Ev w) :
    Calls Tryd.prog 3 #[.string s] w fun e w' => e = .returned (.bool true) ∧ Below w.heap.size w w' := by
  have HM := Lib.hid (p := ∀ W, Below w.heap.size w W → Mon W) (fun W b => mon_below (Nat.le_refl _) b hM)
  have HE := Lib.hid (p := ∀ W, Below w.heap.size w W → Ev W) (fun W b => ev_below hE b)
  obtain ⟨ts, p, er, hS⟩ := Scn.total (lst s)
  obtain ⟨us, q2, er2, hS2⟩ := Scn.total (lst ⟨#[97, 32, 45, 32, 49]⟩)
  have fw := hS.few
  have KS := Lib.hid (fun W hM hE => scan_isM s ts p er hS W hM hE)
  have KR := Lib.hid (fun W => rscan_isM s ts p er hS W)
  have KO := Lib.hid (fun W hM hE => scan_isM _ us q2 er2 hS2 W hM hE)
  have KW := Lib.hid (fun W => rscan_isM _ us q2 er2 hS2 W)
  obtain ⟨n, hn⟩ : ∃ n, ts.length = n := ⟨_, rfl⟩
  obtain ⟨m, hm⟩ : ∃ m, us.length = m := ⟨_, rfl⟩
  have HN := Lib.hid hn
  have HU := Lib.hid hm
  rw [hn] at KS KR fw
  rw [hm] at KO KW
  clear hS hS2 hM hE hn hm
  go_enter Tryd.func3, Tryd.ntmps3
  go_wp2_with fail
  go_at_call 4
  refine (KS.out _ (HM.out _ (Below.refl _ _)) (HE.out _ (Below.refl _ _))).mono ?_
  rintro e w1 ⟨a, cap, rfl, L1⟩
  have B1 := Lib.hid L1.bel
  have OA1 := Lib.hid L1.ow
  have TA1 := Lib.hid (p := TL w1 a n ts) (by have := L1.tl; rwa [HN.out] at this)
  have CA := Lib.hid L1.cp
  have UB := Lib.hid (World.ownsRow.lt L1.ow)
  clear L1
  go_wp2_with fail
  go_at_call 4
  refine (KO.out _ (HM.out _ B1.out) (HE.out _ B1.out)).mono ?_
  rintro e w2 ⟨ao, co, rfl, L2⟩
  have B2 := Lib.hid (B1.out.trans (L2.bel.mono B1.out.size))
  have OA2 := Lib.hid (OA1.out.later L2.bel)
  have TA2 := Lib.hid (TA1.out.later L2.bel)
  have SZ2 := Lib.hid L2.bel.size
  have TO2 := Lib.hid (tx_n (B := w1.heap.size) HU.out L2 (Nat.le_refl _))
  clear L2 OA1
  go_wp2_with fail
  go_at_call 5
  refine (KW.out _).mono ?_
  rintro e w3 ⟨aw, cw, rfl, L3⟩
  have B3 := Lib.hid (B2.out.trans (L3.bel.mono B2.out.size))
  have OA3 := Lib.hid (OA2.out.later L3.bel)
  have TA3 := Lib.hid (TA2.out.later L3.bel)
  have SZ3 := Lib.hid (Nat.le_trans SZ2.out L3.bel.size)
  have TO3 := Lib.hid (TO2.out.later L3.bel)
  have TW3 := Lib.hid (tx_n (B := w1.heap.size) HU.out L3 SZ2.out)
  clear L3 OA2 TO2
  go_wp2_with fail
  go_at_call 4
  refine (KS.out _ (HM.out _ B3.out) (HE.out _ B3.out)).mono ?_
  rintro e w4 ⟨at4, c4, rfl, L4⟩
  have B4 := Lib.hid (B3.out.trans (L4.bel.mono B3.out.size))
  have OA4 := Lib.hid (OA3.out.later L4.bel)
  have TA4 := Lib.hid (TA3.out.later L4.bel)
  have SZ4 := Lib.hid (Nat.le_trans SZ3.out L4.bel.size)
  have TO4 := Lib.hid (TO3.out.later L4.bel)
  have TW4 := Lib.hid (TW3.out.later L4.bel)
  have TT4 := Lib.hid (tx_n (B := w1.heap.size) HN.out L4 SZ3.out)
  clear L4 OA3 TO3 TW3
  go_wp2_with fail
  go_at_call 5
  refine (KR.out _).mono ?_
  rintro e w5 ⟨ab, c5, rfl, L5⟩
  have B5 := Lib.hid (B4.out.trans (L5.bel.mono B4.out.size))
  have OA5 := Lib.hid (OA4.out.later L5.bel)
  have TA5 := Lib.hid (TA4.out.later L5.bel)
  have SZ5 := Lib.hid (Nat.le_trans SZ4.out L5.bel.size)
  have TO5 := Lib.hid (TO4.out.later L5.bel)
  have TW5 := Lib.hid (TW4.out.later L5.bel)
  have TT5 := Lib.hid (TT4.out.later L5.bel)
  have TB5 := Lib.hid (tx_n (B := w1.heap.size) HN.out L5 SZ4.out)
  clear L5 OA4 TO4 TW4 TT4
  go_wp2_with fail
  go_at_call 6
  refine (sameTok_any a ab n cap c5 ts w5 TA5.out TB5.out.tl).mono ?_
  rintro e w' ⟨rfl, x1, rfl⟩
  go_wp2_with fail
  go_at_call 6
  refine (sameTok_any at4 ab n c4 c5 ts _ (TT5.out.tl.later (below_q x1)) (TB5.out.tl.later (below_q x1))).mono ?_
  rintro e w' ⟨rfl, x2, rfl⟩
  go_wp2_with fail
  go_at_call 6
  refine (sameTok_any ao aw m co cw us _ (TO5.out.tl.later (below_q (x1 + x2))) (TW5.out.tl.later (below_q (x1 + x2)))).mono ?_
  rintro e w' ⟨rfl, x3, hw6⟩
  have BB := Lib.hid (p := Below w5.heap.size w5 w') (by rw [hw6]; exact ⟨rfl, rfl, rfl, Nat.le_refl _, fun _ _ => rfl⟩)
  clear hw6
  rename World => w6
  have B6 := Lib.hid (B5.out.trans (BB.out.mono B5.out.size))
  have OA6 := Lib.hid (OA5.out.later BB.out)
  have TO6 := Lib.hid (TO5.out.later BB.out)
  have TW6 := Lib.hid (TW5.out.later BB.out)
  have TT6 := Lib.hid (TT5.out.later BB.out)
  have TB6 := Lib.hid (TB5.out.later BB.out)
  have SZ6 := Lib.hid (Nat.le_trans SZ5.out BB.out.size)
  clear OA5 TO5 TW5 TT5 TB5 TA5 BB
  go_wp2
  go_loopw [18] (fun t wr => ∃ k : Nat, k ≤ n ∧ t = .int .i64 k ∧ OV w w6 wr a n cap k ts) (fun t _ => n - intV t)
  case atStart => exact ⟨0, by omega, rfl, ⟨OA6.out, grow_none _ (Below.refl _ _)⟩⟩
  case round =>
    obtain ⟨k, hk, rfl, hV⟩ := hrel
    rename World => wr
    have VV := Lib.hid hV
    by_cases hlt : k < n
    · obtain ⟨g, rfl⟩ : ∃ g, a = some ⟨g, 0, none⟩ := by
        rcases hV.ow.2 with ⟨h1, h2⟩ | ⟨g, c, cur, h1, hb, hg, hn, hm, hs, ht⟩
        · rw [ovr_len (by rw [HN.out]; exact hk), HN.out] at h2; omega
        · injection h1 with h1; exact ⟨g, h1⟩
      obtain ⟨hc, hf, hcap, -⟩ := own_elem (k := k) hV.ow (by rw [ovr_len (by rw [HN.out]; exact hk), HN.out]; exact hlt) (by rw [ovr_len (by rw [HN.out]; exact hk), HN.out]; exact fw)
      obtain ⟨x0, x1, x2, x3, x4, x5, x6, x7, x8⟩ := hc
      generalize (ovr k ts).getD k default = f at *
      have kc : (k : Int) < (n : Int) := by omega
      have kw : IntKind.i64.wrap ((k : Int) + 1) = (k : Int) + 1 := by simp [IntKind.wrap, IntKind.bits, IntKind.signed]; omega
      have ME := Lib.hid (p := n - intV (.int .i64 ((k : Int) + 1)) < n - intV (.int .i64 (k : Int))) (by simp only [intV]; omega)
      clear hV
      go_wp2
      go_roundw
      case rel => exact ⟨k + 1, by omega, by simp, OV.step VV.out (by rw [HN.out]; exact hlt)⟩
      case measure => exact ME.out
    · obtain rfl : k = n := by omega
      have OA7 := Lib.hid (p := OwT wr w.heap.size (.slice a k cap) (List.replicate k T99)) (by have := VV.out.ow; rw [← HN.out, ovr_all] at this; rw [HN.out] at this; exact this)
      have B7 := Lib.hid (p := Below w.heap.size w wr) (B6.out.grown VV.out.gr B6.out.size (fun k e => (UB.out k e).1))
      have TO7 := Lib.hid (TO6.out.kept VV.out.gr (fun k e => (UB.out k e).2))
      have TW7 := Lib.hid (TW6.out.kept VV.out.gr (fun k e => (UB.out k e).2))
      have TT7 := Lib.hid (TT6.out.kept VV.out.gr (fun k e => (UB.out k e).2))
      have TB7 := Lib.hid (TB6.out.kept VV.out.gr (fun k e => (UB.out k e).2))
      clear hV VV TO6 TW6 TT6 TB6 OA6
      obtain ⟨t99, ht99⟩ : ∃ t99, List.replicate k T99 = t99 := ⟨_, rfl⟩
      rw [ht99] at OA7
      have L99 := Lib.hid (p := t99.length = k) (by rw [← ht99]; simp)
      have H99 := Lib.hid ht99.symm
      clear ht99
      go_wp2
      go_loopw [19, 20] (fun x t w8 => ∃ (j : Nat) (v : Value), v = x ∧ t = .int .i64 j ∧ j ≤ 70 ∧ ExtT w.heap.size wr (.slice a k cap) t99 w8 v (t99 ++ List.replicate j T98)) (fun _ t _ => 70 - intV t)
      case atStart => exact ⟨0, _, rfl, rfl, by omega, by simpa using ExtT.start OA7.out⟩
      case round =>
        obtain ⟨j, v, rfl, rfl, hj, hX⟩ := hrel
        rename World => w8
        have XX := Lib.hid hX
        have ZX := Lib.hid (p := (t99 ++ List.replicate j T98).length ≤ 70000) (by rw [List.length_append, L99.out, List.length_replicate]; omega)
        have BX := Lib.hid (p := Below w.heap.size w w8) (B7.out.trans (hX.below B7.out.size))
        clear hX
        by_cases hlt : j < 70
        · have kc : (j : Int) < 70 := by omega
          have kw : IntKind.i64.wrap ((j : Int) + 1) = (j : Int) + 1 := by simp [IntKind.wrap, IntKind.bits, IntKind.signed]; omega
          have ME := Lib.hid (p := 70 - intV (.int .i64 ((j : Int) + 1)) < 70 - intV (.int .i64 (j : Int))) (by simp only [intV]; omega)
          go_wp2_with (at_builtin; refine wp_tokenK _ T98 ⟨#[]⟩ rfl w8.heap.size rfl rfl _ _ rfl w.heap.size v (t99 ++ List.replicate j T98) rfl rfl XX.out.own ZX.out BX.out.size ?_; intro v' w9 hE; have X9 := Lib.hid (XX.out.more hE); clear hE)
          go_roundw
          case rel => exact ⟨j + 1, v', rfl, by simp, by omega, X9.out⟩
          case measure => exact ME.out
        · obtain rfl : j = 70 := by omega
          have TO8 := Lib.hid (TO7.out.kept XX.out.grown (fun k e => (UB.out k e).2))
          have TW8 := Lib.hid (TW7.out.kept XX.out.grown (fun k e => (UB.out k e).2))
          have TT8 := Lib.hid (TT7.out.kept XX.out.grown (fun k e => (UB.out k e).2))
          have TB8 := Lib.hid (TB7.out.kept XX.out.grown (fun k e => (UB.out k e).2))
          obtain ⟨ag, cg, rfl, hcg⟩ := own_slice XX.out.own
          have hgl : (t99 ++ List.replicate 70 T98).length = k + 70 := by rw [List.length_append, L99.out, List.length_replicate]
          rw [hgl] at hcg ⊢
          have OG8 := Lib.hid XX.out.own
          have OA8 := Lib.hid XX.out.old
          rw [hgl] at OG8
          clear XX TO7 TW7 TT7 TB7 OA7 hgl
          go_wp2_with fail
          go_at_call 6
          refine (sameTok_any at4 ab k c4 c5 ts w8 TT8.out.tl TB8.out.tl).mono ?_
          rintro e w' ⟨rfl, x1, rfl⟩
          go_wp2_with fail
          go_at_call 6
          refine (sameTok_any ao aw m co cw us _ (TO8.out.tl.later (below_q x1)) (TW8.out.tl.later (below_q x1))).mono ?_
          rintro e w9 ⟨rfl, x2, hw9⟩
          have BB := Lib.hid (p := Below w8.heap.size w8 w9) (by rw [hw9]; exact ⟨rfl, rfl, rfl, Nat.le_refl _, fun _ _ => rfl⟩)
          clear hw9
          have B9 := Lib.hid (BX.out.trans (BB.out.mono BX.out.size))
          go_wp2_with fail
          go_at_call 4
          refine (KS.out _ (HM.out _ B9.out) (HE.out _ B9.out)).mono ?_
          rintro e w10 ⟨ac, cc, rfl, L10⟩
          have B10 := Lib.hid (B9.out.trans (L10.bel.mono B9.out.size))
          have BY := Lib.hid (BB.out.trans (L10.bel.mono BB.out.size))
          have TC := Lib.hid (p := TL w10 ac k ts) (by have := L10.tl; rwa [HN.out] at this)
          have TB10 := Lib.hid (TB8.out.tl.later BY.out)
          have OG10 := Lib.hid (OG8.out.later BY.out)
          have OA10 := Lib.hid (OA8.out.later BY.out)
          clear L10 BB TB8 TO8 TW8 TT8 OG8 OA8 BY B9 BX KS KR KO KW
          go_wp2
          go_loopw [24] (fun t wx => ∃ i : Nat, i ≤ k + 70 ∧ t = .int .i64 i ∧ ∃ q, wx = w10.drewN q) (fun t _ => k + 70 - intV t)
          case atStart => exact ⟨0, by omega, rfl, 0, rfl⟩
          case round =>
            obtain ⟨i, hi, rfl, qq, hwx⟩ := hrel
            rename World => wx
            have HX := Lib.hid hwx
            by_cases hlt : i < k + 70
            · have hl : i < (t99 ++ List.replicate 70 T98).length := by rw [List.length_append, L99.out, List.length_replicate]; exact hlt
              obtain ⟨gg, cg', eg, -, hG⟩ := own_kind OG10.out i hl
              have kc : (i : Int) < (k : Int) + 70 := by omega
              have kc' : (i : Int) < ((k + 70 : Nat) : Int) := by omega
              have kw : IntKind.i64.wrap ((i : Int) + 1) = (i : Int) + 1 := by simp [IntKind.wrap, IntKind.bits, IntKind.signed]; omega
              have ME := Lib.hid (p := k + 70 - intV (.int .i64 ((i : Int) + 1)) < k + 70 - intV (.int .i64 (i : Int))) (by simp only [intV]; omega)
              injection eg with eg1 eg2 eg3
              subst eg1
              have hG' : wx.cell? ⟨gg, i * 9, none⟩ = some (.int .i64 ((t99 ++ List.replicate 70 T98).getD i default).k) := by rw [hwx]; exact hG
              by_cases hik : i < k
              · obtain ⟨ga, ca, ea, -, hA⟩ := own_kind OA10.out i (by rw [L99.out]; exact hik)
                injection ea with ea1 ea2 ea3
                subst ea1
                have e1 : (t99 ++ List.replicate 70 T98).getD i default = T99 := by rw [H99.out]; simp [List.getD, List.getElem?_append, hik]
                have e2 : t99.getD i default = T99 := by rw [H99.out]; simp [List.getD, hik]
                have hA' : wx.cell? ⟨ga, i * 9, none⟩ = some (.int .i64 99) := by rw [hwx]; rw [e2] at hA; exact hA
                rw [e1] at hG'
                have hG2 : wx.cell? ⟨gg, i * 9, none⟩ = some (.int .i64 99) := hG'
                have d1 : decide ((i : Int) < (k : Int)) = true := decide_eq_true (by omega)
                have d2 : decide ((k : Int) ≤ (i : Int)) = false := decide_eq_false (by omega)
                have d3 : (i : Int) < (k : Int) := by omega
                clear hG hA hG' hwx eg2 eg3 ea2 ea3 e1 e2
                go_wp2
                go_roundw
                case rel => exact ⟨i + 1, by omega, by simp, qq, HX.out⟩
                case measure => exact ME.out
              · have e1 : (t99 ++ List.replicate 70 T98).getD i default = T98 := by
                  rw [H99.out]; exact rep_at k 70 i (by omega) hlt
                rw [e1] at hG'
                have hG2 : wx.cell? ⟨gg, i * 9, none⟩ = some (.int .i64 98) := hG'
                have d1 : decide ((i : Int) < (k : Int)) = false := decide_eq_false (by omega)
                have d2 : decide ((k : Int) ≤ (i : Int)) = true := decide_eq_true (by omega)
                have d3 : ¬ (i : Int) < (k : Int) := by omega
                clear hG hG' hwx eg2 eg3 e1
                go_wp2
                go_roundw
                case rel => exact ⟨i + 1, by omega, by simp, qq, HX.out⟩
                case measure => exact ME.out
            · obtain rfl : i = k + 70 := by omega
              have TCx := Lib.hid (p := TL wx ac k ts) (by rw [hwx]; exact TC.out.later (below_q _))
              have TBx := Lib.hid (p := TL wx ab k ts) (by rw [hwx]; exact TB10.out.later (below_q _))
              have BXx := Lib.hid (p := Below w.heap.size w wx) (by rw [hwx]; exact B10.out.trans ((below_q _).mono B10.out.size))
              clear hwx
              go_wp2_with fail
              go_at_call 6
              refine (sameTok_any ac ab k cc c5 ts wx TCx.out TBx.out).mono ?_
              rintro e w' ⟨rfl, x3, rfl⟩
              go_wp2
              go_ret
              exact ⟨rfl, BXx.out.trans ((below_q _).mono BXx.out.size)⟩
end Go.Proofs.YtlihkmhhfnkkoaaDoor
