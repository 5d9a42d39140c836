import Derived.Test.YtccjeipkljdhdaaGreatDoorXBM
import Derived.Test.YtccjeipkljdhdaaGreatDoorXAN
import Derived.Test.YtccjeipkljdhdaaGreatDoorXAH
import Derived.Test.YtccjeipkljdhdaaGreatDoorXAR
import Derived.Test.YtccjeipkljdhdaaGreatDoorXBK
import Derived.Test.YtccjeipkljdhdaaGreatDoorXAG
namespace Go.Proofs.YtccjeipkljdhdaaGreatDoor
open Go.RowKit
set_option linter.unusedVariables false
set_option linter.unusedSimpArgs false

theorem valueT_any (s : ByteArray) (hs : s.size ≤ 16777216) (w : World) :
    Calls Tryz.prog 29 #[.string s, .bool true] w fun e w' => VlE (valW s) e ∧ w' = w := by
  have e : valW s = rvV true s.data.toList := (rvV_true _).symm
  rw [e]
  by_cases h : ∃ h0 : 0 < s.size, s[0].toNat = 45
  · obtain ⟨h0, h1⟩ := h
    exact valueA_any s hs h0 h1 w
  · exact valueB_any true s hs (.inr fun h0 h1 => h ⟨h0, h1⟩) w
theorem valueN_any (s : ByteArray) (hs : s.size ≤ 16777216) (w : World) :
    Calls Tryz.prog 29 #[.string s, .bool false] w fun e w' => VlE (numW s) e ∧ w' = w := by
  have e : numW s = rvV false s.data.toList := (rvV_false _).symm
  rw [e]
  exact valueB_any false s hs (.inl rfl) w
set_option maxRecDepth 100000 in
set_option maxHeartbeats 2000000 in
theorem findS_any {w : World} {a : Option Addr} {n c : Nat} {ss : List ByteArray} (h : SR w a n c ss) (s : ByteArray) :
    Calls Tryz.prog 59 #[.slice a n c, .string s] w fun e w' => e = .returned (.int .i64 ((plcW ss s).getD (-1))) ∧ w' = w := by
  obtain ⟨_, l1, b1, s1, r1⟩ := h
  have L1 := Lib.hid l1
  clear l1
  have HT := Lib.hid (p := ∀ k (hk : k < ss.length), ss[k] = s → (∀ j (hj : j < k), ss[j]'(by omega) ≠ s) → (plcW ss s).getD (-1) = (k : Int)) (fun k hk e hn => by rw [plc_at hk e hn]; rfl)
  have HM := Lib.hid (p := (∀ j (hj : j < ss.length), ss[j] ≠ s) → (plcW ss s).getD (-1) = -1) (fun hn => by rw [plc_not hn]; rfl)
  obtain ⟨R, hR⟩ : ∃ R, (plcW ss s).getD (-1) = R := ⟨_, rfl⟩
  rw [hR] at HT HM ⊢
  have R1 := Lib.hid r1
  clear hR s1 r1
  go_enter Tryz.func59, Tryz.ntmps59
  go_wp2
  go_loop [5] (fun t => ∃ k : Nat, k ≤ n ∧ t = .int .i64 (k : Int) ∧ RowKit.Hid (∀ j (q : j < ss.length), j < k → ss[j] ≠ s)) (fun t => n - (intOf t).toNat)
  case atStart => exact ⟨0, by omega, rfl, fun j q h => absurd h (by omega)⟩
  case round =>
    obtain ⟨k, hk, rfl, HN⟩ := hrel
    by_cases hlt : k < n
    · obtain ⟨x, o, rfl, hx, hc⟩ := R1.out.oneP (by omega)
      have lk : k < ss.length := by rw [L1.out]; exact hlt
      have c0 := hc k hlt 0 (by omega)
      simp only [Nat.mul_one, Nat.add_zero, List.getD_cons_zero] at c0
      rw [show ss.getD k default = ss[k] by simp [List.getD, lk]] at c0
      have kc : (k : Int) < (n : Int) := by omega
      have T1 := Lib.hid (fun e => HT.out k lk e (fun j hj => HN.out j (by omega) hj))
      have N1 := Lib.hid (p := ss[k] ≠ s → ∀ j (q : j < ss.length), j < k + 1 → ss[j] ≠ s) (fun ne j q h => by
        by_cases e : j = k
        · subst e; exact ne
        · exact HN.out j q (by omega))
      generalize ss[k] = z at *
      clear hc
      by_cases hz : z = s
      · obtain rfl := T1.out hz
        subst hz
        go_wp2
        go_ret
        exact ⟨rfl, rfl⟩
      · have hs' : (z.toList == s.toList) = false := by
          rw [beq_eq_false_iff_ne]; exact fun q => hz (bytes_eq q)
        have N2 := Lib.hid (N1.out hz)
        go_wp2
        go_roundw
        case rel => exact ⟨k + 1, by omega, by go_num, N2⟩
        case measure => simp [intOf]; omega
    · obtain rfl : k = n := by omega
      obtain rfl := HM.out (fun j hj => HN.out j hj (by rw [← L1.out]; exact hj))
      go_wp2
      go_ret
      exact ⟨rfl, rfl⟩
set_option maxRecDepth 100000 in
set_option maxHeartbeats 2000000 in
theorem findZ_any {w : World} {a : Option Addr} {n c : Nat} {ss : List Int} (h : NR w a n c ss) (s : Int) :
    Calls Tryz.prog 58 #[.slice a n c, .int .i64 s] w fun e w' => e = .returned (.int .i64 ((plcW ss s).getD (-1))) ∧ w' = w := by
  obtain ⟨_, l1, b1, s1, r1⟩ := h
  have L1 := Lib.hid l1
  clear l1
  have HT := Lib.hid (p := ∀ k (hk : k < ss.length), ss[k] = s → (∀ j (hj : j < k), ss[j]'(by omega) ≠ s) → (plcW ss s).getD (-1) = (k : Int)) (fun k hk e hn => by rw [plc_at hk e hn]; rfl)
  have HM := Lib.hid (p := (∀ j (hj : j < ss.length), ss[j] ≠ s) → (plcW ss s).getD (-1) = -1) (fun hn => by rw [plc_not hn]; rfl)
  obtain ⟨R, hR⟩ : ∃ R, (plcW ss s).getD (-1) = R := ⟨_, rfl⟩
  rw [hR] at HT HM ⊢
  have R1 := Lib.hid r1
  clear hR s1 r1
  go_enter Tryz.func58, Tryz.ntmps58
  go_wp2
  go_loop [5] (fun t => ∃ k : Nat, k ≤ n ∧ t = .int .i64 (k : Int) ∧ RowKit.Hid (∀ j (q : j < ss.length), j < k → ss[j] ≠ s)) (fun t => n - (intOf t).toNat)
  case atStart => exact ⟨0, by omega, rfl, fun j q h => absurd h (by omega)⟩
  case round =>
    obtain ⟨k, hk, rfl, HN⟩ := hrel
    by_cases hlt : k < n
    · obtain ⟨x, o, rfl, hx, hc⟩ := R1.out.oneP (by omega)
      have lk : k < ss.length := by rw [L1.out]; exact hlt
      have c0 := hc k hlt 0 (by omega)
      simp only [Nat.mul_one, Nat.add_zero, List.getD_cons_zero] at c0
      rw [show ss.getD k 0 = ss[k] by simp [List.getD, lk]] at c0
      have kc : (k : Int) < (n : Int) := by omega
      have T1 := Lib.hid (fun e => HT.out k lk e (fun j hj => HN.out j (by omega) hj))
      have N1 := Lib.hid (p := ss[k] ≠ s → ∀ j (q : j < ss.length), j < k + 1 → ss[j] ≠ s) (fun ne j q h => by
        by_cases e : j = k
        · subst e; exact ne
        · exact HN.out j q (by omega))
      generalize ss[k] = z at *
      clear hc
      by_cases hz : z = s
      · obtain rfl := T1.out hz
        subst hz
        go_wp2
        go_ret
        exact ⟨rfl, rfl⟩
      · have N2 := Lib.hid (N1.out hz)
        go_wp2
        go_roundw
        case rel => exact ⟨k + 1, by omega, by go_num, N2⟩
        case measure => simp [intOf]; omega
    · obtain rfl : k = n := by omega
      obtain rfl := HM.out (fun j hj => HN.out j hj (by rw [← L1.out]; exact hj))
      go_wp2
      go_ret
      exact ⟨rfl, rfl⟩
end Go.Proofs.YtccjeipkljdhdaaGreatDoor

namespace Go.Proofs.YtccjeipkljdhdaaGreatDoor
open Go.RowKit
set_option linter.unusedVariables false
set_option linter.unusedSimpArgs false

/-- One of the seven lines. -/
def lsD (k : Nat) (ws : List ByteArray) (p : Ap) : Option Ap := if 3 ≤ k then apNum k ws p else apList k ws p
/-- Whether one of the seven lines may come. -/
def mayD (next k : Nat) : Bool := decide (k < 7 ∧ next ≤ k) && (List.range k).all fun j => decide (j < next) || decide (j < 3)
def dcLine (st : Nat × Ap) (w : ByteArray) (ws : List ByteArray) : Option (Nat × Ap) :=
  if st.1 < 7 then (if mayD st.1 (hdI w) = true then (lsD (hdI w) ws st.2).map fun q => (hdI w + 1, q) else none)
  else if hdI w = 7 then (apNum 7 ws st.2).map fun q => (7, q)
  else if st.2.days = [] then none else (insW st.2 w ws).map fun i => (7, { st.2 with days := addI st.2.days i })
theorem may_same : ∀ next, next < 7 → ∀ k, k < 8 → mayC next k = mayD next k := by decide
theorem may_seven : ∀ k, k < 8 → mayC 7 k = decide (k = 7) := by decide
theorem hd_nm : ∀ k, k < 8 → hdA k ∉ nmL := by
  have : ∀ k, k < 8 → ∀ j, j < 29 → (hdA k).data.toList ≠ (nmA j).data.toList := by decide
  intro k hk m
  obtain ⟨j, hj, e⟩ := List.getElem_of_mem m
  have hj' : j < 29 := by rw [← nm29]; exact hj
  exact this k hk j hj' (by rw [← nm_get j hj', e])
theorem hdI_eq {w : ByteArray} (h : hdI w < 8) : w = hdA (hdI w) := by
  rcases lnE_hdI w with ⟨k, hk, e, q⟩ | ⟨n, _⟩
  · rw [e]
    rcases q with ⟨k', hk', e', e2, _⟩ | ⟨_, _, q⟩
    · have : k = k' := by omega
      rw [this]; exact e'.symm
    · cases q
  · exact absurd h n
theorem insW_hd {p : Ap} {w : ByteArray} {ws : List ByteArray} (h : hdI w < 8) : insW p w ws = none := by
  unfold insW plcW
  rw [if_neg (by rw [hdI_eq h]; exact hd_nm _ h)]
  rfl
theorem dc_eq {st : Nat × Ap} {w : ByteArray} {ws : List ByteArray} (h7 : st.1 ≤ 7) (hd : st.1 < 7 → st.2.days = []) : apLine st w ws = dcLine st w ws := by
  unfold apLine dcLine
  by_cases hk : hdI w < 8
  · rw [if_pos hk]
    by_cases hn : st.1 < 7
    · rw [if_pos hn, may_same st.1 hn _ hk]
      by_cases hm : mayD st.1 (hdI w) = true
      · rw [if_pos hm, if_pos hm]
        have k7 : hdI w < 7 := by
          unfold mayD at hm
          simp only [Bool.and_eq_true, decide_eq_true_eq] at hm
          exact hm.1.1
        rw [show min (hdI w + 1) 7 = hdI w + 1 by omega]
        rfl
      · rw [if_neg hm, if_neg hm]
    · have e7 : st.1 = 7 := by omega
      rw [if_neg hn, e7, may_seven _ hk]
      by_cases k7 : hdI w = 7
      · rw [if_pos (by simpa using k7), if_pos k7, k7]
        rfl
      · rw [if_neg (by simpa using k7), if_neg k7]
        split
        · rfl
        · rw [insW_hd hk]; rfl
  · rw [if_neg hk]
    by_cases hn : st.1 < 7
    · rw [if_pos hn, if_pos (hd hn), if_neg]
      intro q
      unfold mayD at q
      simp only [Bool.and_eq_true, decide_eq_true_eq] at q
      omega
    · have e7 : st.1 = 7 := by omega
      rw [if_neg hn, if_neg (show ¬ hdI w = 7 by omega), e7]
theorem dc_days {st st' : Nat × Ap} {w : ByteArray} {ws : List ByteArray} (h : apLine st w ws = some st') (hd : st.1 < 7 → st.2.days = []) : st'.1 < 7 → st'.2.days = [] := by
  intro hn
  unfold apLine at h
  split at h
  · split at h
    · rename_i hk hm
      obtain ⟨q, h1, rfl⟩ := Option.map_eq_some_iff.1 h
      simp only at hn
      have k6 : hdI w < 6 ∨ hdI w = 6 := by omega
      by_cases hs : st.1 < 7
      · have d0 := hd hs
        simp only
        split at h1
        · unfold apNum at h1
          split at h1
          · obtain ⟨n, _, rfl⟩ := Option.map_eq_some_iff.1 h1
            split
            · exact d0
            · split
              · exact d0
              · split
                · exact d0
                · split
                  · exact d0
                  · omega
          · cases h1
        · unfold apList at h1
          split at h1
          · cases h1
          · split at h1
            · split at h1
              · injection h1 with h1; subst h1; exact d0
              · cases h1
            · split at h1
              · split at h1
                · injection h1 with h1; subst h1; exact d0
                · cases h1
              · obtain ⟨l, _, rfl⟩ := Option.map_eq_some_iff.1 h1
                exact d0
      · exfalso
        unfold mayC at hm
        simp only [Bool.and_eq_true, decide_eq_true_eq] at hm
        omega
    · cases h
  · split at h
    · cases h
    · rename_i hk hne
      obtain ⟨i, _, rfl⟩ := Option.map_eq_some_iff.1 h
      exact absurd (hd hn) hne
end Go.Proofs.YtccjeipkljdhdaaGreatDoor

namespace Go.Proofs.YtccjeipkljdhdaaGreatDoor
open Go.RowKit
set_option linter.unusedVariables false
set_option linter.unusedSimpArgs false

/-- What a line of the seven leaves. -/
def LsE (pb B m : Nat) (o : Option Ap) (w : World) (e : Ending) (w' : World) : Prop := e = .returned (.bool o.isSome) ∧ FrB pb B w w' ∧ ∀ q, o = some q → DsP pb B w' q m
theorem DsP.put {pb B m j : Nat} {W : World} {p q : Ap} {v : Int} (h : DsP pb B W p m) (e1 : q.ns = p.ns) (e2 : q.cs = p.cs) (e3 : q.pl = p.pl) (e4 : q.days = p.days)
    (hq : ∀ vn vu vp vd, ∃ hj : j < (dsA vn vu vp p.hor p.cells p.slots p.stack vd).size, (dsA vn vu vp p.hor p.cells p.slots p.stack vd).set j (.int .i64 v) hj = dsA vn vu vp q.hor q.cells q.slots q.stack vd) : DsP pb B (W.setCell ⟨pb, j, none⟩ (.int .i64 v)) q m := by
  obtain ⟨vn, vu, vp, vd, D, hb, hl⟩ := h
  obtain ⟨hj, e⟩ := hq vn vu vp vd
  have l2 := hl.setB j (.int .i64 v)
  exact ⟨vn, vu, vp, vd, D, by rw [← e]; exact hb.set j _ hj, ⟨by rw [e1]; exact l2.on, by rw [e2]; exact l2.ou, by rw [e3]; exact l2.op, l2.od, l2.oc, l2.ap, l2.an, by rw [e4]; exact l2.days, l2.dl, l2.cl, l2.pb_lt, l2.sz⟩⟩
theorem DsP.cellN {pb B m : Nat} {W : World} {p : Ap} (h : DsP pb B W p m) : (W.cell? ⟨pb, 3, none⟩ = some (.int .i64 p.hor) ∧ W.cell? ⟨pb, 4, none⟩ = some (.int .i64 p.cells) ∧ W.cell? ⟨pb, 5, none⟩ = some (.int .i64 p.slots) ∧ W.cell? ⟨pb, 6, none⟩ = some (.int .i64 p.stack)) ∧ ∀ j, W.frozen? ⟨pb, j, none⟩ = false := by
  obtain ⟨vn, vu, vp, vd, D, hb, hl⟩ := h
  exact ⟨⟨hb.cell 3, hb.cell 4, hb.cell 5, hb.cell 6⟩, fun j => hb.frozen j⟩
set_option maxRecDepth 100000 in
set_option maxHeartbeats 4000000 in
theorem listN_any {w : World} {pb B m : Nat} {p : Ap} {xb xo c : Nat} {w0 u : ByteArray} (k : Nat) (h3 : 3 ≤ k) (h7 : k < 7) (h : DsP pb B w p m) (hs : SR w (some ⟨xb, xo, none⟩) 2 c [w0, u]) (hz : u.size ≤ 16777216) :
    Calls Tryz.prog 55 #[.pointer (some ⟨pb, 0, none⟩), .slice (some ⟨xb, xo, none⟩) 2 c, .int .i64 (k : Int)] w fun e w' => LsE pb B m (lsD k [u] p) w e w' := by
  have c1 : w.cell? ⟨xb, xo + 1, none⟩ = some (.string u) := by
    rcases hs.2.2.2.2 with q | ⟨b, o, e, q1, q2⟩
    · omega
    · injection e with e
      injection e with e1 e2
      subst e1 e2
      have := q2 1 (by omega) 0 (by omega)
      simpa using this
  have H := Lib.hid h
  obtain ⟨⟨d3, d4, d5, d6⟩, df⟩ := h.cellN
  have f3 := df 3
  have f4 := df 4
  have f5 := df 5
  have f6 := df 6
  have KV := Lib.hid (valueN_any u hz w)
  obtain ⟨O, hO⟩ : ∃ O, numW u = O := ⟨_, rfl⟩
  have e0 : lsD k [u] p = O.map fun n => if k = 3 then { p with hor := n } else if k = 4 then { p with cells := n } else if k = 5 then { p with slots := n } else if k = 6 then { p with stack := n } else { p with days := p.days ++ [(n, [])] } := by
    unfold lsD
    rw [if_pos h3, ← hO]
    rfl
  rw [e0]
  rw [hO] at KV
  clear e0 hO h hs hz df
  rcases (show k = 3 ∨ k = 4 ∨ k = 5 ∨ k = 6 by omega) with rfl | rfl | rfl | rfl
  · rw [show ((3 : Nat) : Int) = 3 from rfl]
    cases O with
    | none =>
      go_enter Tryz.func55, Tryz.ntmps55
      go_wp2
      go_loopw [7] (fun t W => t = .int .i64 1 ∧ W = w) (fun t _ => 0)
      case atStart => exact ⟨rfl, rfl⟩
      case round =>
        obtain ⟨rfl, hW⟩ := hrel
        subst hW
        go_wp2_with (go_at_call 29; refine KV.out.mono ?_; rintro e w2 ⟨⟨i, rfl, hi⟩, rfl⟩; clear hi)
        go_ret
        exact ⟨rfl, FrB.set _ 3 _, fun q hq => by cases hq⟩
    | some v =>
      have HP := Lib.hid (H.out.put (j := 3) (v := v) (q := { p with hor := v }) rfl rfl rfl rfl (fun vn vu vp vd => ⟨by simp [dsA], rfl⟩))
      have c2 : (w.setCell ⟨pb, 3, none⟩ (.int .i64 v)).cell? ⟨pb, 3, none⟩ = some (.int .i64 v) := World.cell?_setCell_same _ _ _ d3
      go_enter Tryz.func55, Tryz.ntmps55
      go_wp2
      go_loopw [7] (fun t W => (t = .int .i64 1 ∧ W = w) ∨ (t = .int .i64 2 ∧ W = w.setCell ⟨pb, 3, none⟩ (.int .i64 v))) (fun t _ => 2 - (intOf t).toNat)
      case atStart => exact .inl ⟨rfl, rfl⟩
      case round =>
        rcases hrel with ⟨rfl, hW⟩ | ⟨rfl, hW⟩
        · subst hW
          go_wp2_with (go_at_call 29; refine KV.out.mono ?_; rintro e w2 ⟨⟨i, rfl, hi⟩, rfl⟩; obtain rfl := hi v rfl; clear hi)
          go_roundw
          case rel => exact .inr ⟨rfl, by first | rfl | trivial⟩
          case measure => simp [intOf]
        · subst hW
          go_wp2
          go_ret
          exact ⟨rfl, FrB.set _ 3 _, fun q hq => by injection hq with hq; subst hq; exact HP.out⟩
  · rw [show ((4 : Nat) : Int) = 4 from rfl]
    cases O with
    | none =>
      go_enter Tryz.func55, Tryz.ntmps55
      go_wp2
      go_loopw [7] (fun t W => t = .int .i64 1 ∧ W = w) (fun t _ => 0)
      case atStart => exact ⟨rfl, rfl⟩
      case round =>
        obtain ⟨rfl, hW⟩ := hrel
        subst hW
        go_wp2_with (go_at_call 29; refine KV.out.mono ?_; rintro e w2 ⟨⟨i, rfl, hi⟩, rfl⟩; clear hi)
        go_ret
        exact ⟨rfl, FrB.set _ 4 _, fun q hq => by cases hq⟩
    | some v =>
      have HP := Lib.hid (H.out.put (j := 4) (v := v) (q := { p with cells := v }) rfl rfl rfl rfl (fun vn vu vp vd => ⟨by simp [dsA], rfl⟩))
      have c2 : (w.setCell ⟨pb, 4, none⟩ (.int .i64 v)).cell? ⟨pb, 4, none⟩ = some (.int .i64 v) := World.cell?_setCell_same _ _ _ d4
      go_enter Tryz.func55, Tryz.ntmps55
      go_wp2
      go_loopw [7] (fun t W => (t = .int .i64 1 ∧ W = w) ∨ (t = .int .i64 2 ∧ W = w.setCell ⟨pb, 4, none⟩ (.int .i64 v))) (fun t _ => 2 - (intOf t).toNat)
      case atStart => exact .inl ⟨rfl, rfl⟩
      case round =>
        rcases hrel with ⟨rfl, hW⟩ | ⟨rfl, hW⟩
        · subst hW
          go_wp2_with (go_at_call 29; refine KV.out.mono ?_; rintro e w2 ⟨⟨i, rfl, hi⟩, rfl⟩; obtain rfl := hi v rfl; clear hi)
          go_roundw
          case rel => exact .inr ⟨rfl, by first | rfl | trivial⟩
          case measure => simp [intOf]
        · subst hW
          go_wp2
          go_ret
          exact ⟨rfl, FrB.set _ 4 _, fun q hq => by injection hq with hq; subst hq; exact HP.out⟩
  · rw [show ((5 : Nat) : Int) = 5 from rfl]
    cases O with
    | none =>
      go_enter Tryz.func55, Tryz.ntmps55
      go_wp2
      go_loopw [7] (fun t W => t = .int .i64 1 ∧ W = w) (fun t _ => 0)
      case atStart => exact ⟨rfl, rfl⟩
      case round =>
        obtain ⟨rfl, hW⟩ := hrel
        subst hW
        go_wp2_with (go_at_call 29; refine KV.out.mono ?_; rintro e w2 ⟨⟨i, rfl, hi⟩, rfl⟩; clear hi)
        go_ret
        exact ⟨rfl, FrB.set _ 5 _, fun q hq => by cases hq⟩
    | some v =>
      have HP := Lib.hid (H.out.put (j := 5) (v := v) (q := { p with slots := v }) rfl rfl rfl rfl (fun vn vu vp vd => ⟨by simp [dsA], rfl⟩))
      have c2 : (w.setCell ⟨pb, 5, none⟩ (.int .i64 v)).cell? ⟨pb, 5, none⟩ = some (.int .i64 v) := World.cell?_setCell_same _ _ _ d5
      go_enter Tryz.func55, Tryz.ntmps55
      go_wp2
      go_loopw [7] (fun t W => (t = .int .i64 1 ∧ W = w) ∨ (t = .int .i64 2 ∧ W = w.setCell ⟨pb, 5, none⟩ (.int .i64 v))) (fun t _ => 2 - (intOf t).toNat)
      case atStart => exact .inl ⟨rfl, rfl⟩
      case round =>
        rcases hrel with ⟨rfl, hW⟩ | ⟨rfl, hW⟩
        · subst hW
          go_wp2_with (go_at_call 29; refine KV.out.mono ?_; rintro e w2 ⟨⟨i, rfl, hi⟩, rfl⟩; obtain rfl := hi v rfl; clear hi)
          go_roundw
          case rel => exact .inr ⟨rfl, by first | rfl | trivial⟩
          case measure => simp [intOf]
        · subst hW
          go_wp2
          go_ret
          exact ⟨rfl, FrB.set _ 5 _, fun q hq => by injection hq with hq; subst hq; exact HP.out⟩
  · rw [show ((6 : Nat) : Int) = 6 from rfl]
    cases O with
    | none =>
      go_enter Tryz.func55, Tryz.ntmps55
      go_wp2
      go_loopw [7] (fun t W => t = .int .i64 1 ∧ W = w) (fun t _ => 0)
      case atStart => exact ⟨rfl, rfl⟩
      case round =>
        obtain ⟨rfl, hW⟩ := hrel
        subst hW
        go_wp2_with (go_at_call 29; refine KV.out.mono ?_; rintro e w2 ⟨⟨i, rfl, hi⟩, rfl⟩; clear hi)
        go_ret
        exact ⟨rfl, FrB.set _ 6 _, fun q hq => by cases hq⟩
    | some v =>
      have HP := Lib.hid (H.out.put (j := 6) (v := v) (q := { p with stack := v }) rfl rfl rfl rfl (fun vn vu vp vd => ⟨by simp [dsA], rfl⟩))
      have c2 : (w.setCell ⟨pb, 6, none⟩ (.int .i64 v)).cell? ⟨pb, 6, none⟩ = some (.int .i64 v) := World.cell?_setCell_same _ _ _ d6
      go_enter Tryz.func55, Tryz.ntmps55
      go_wp2
      go_loopw [7] (fun t W => (t = .int .i64 1 ∧ W = w) ∨ (t = .int .i64 2 ∧ W = w.setCell ⟨pb, 6, none⟩ (.int .i64 v))) (fun t _ => 2 - (intOf t).toNat)
      case atStart => exact .inl ⟨rfl, rfl⟩
      case round =>
        rcases hrel with ⟨rfl, hW⟩ | ⟨rfl, hW⟩
        · subst hW
          go_wp2_with (go_at_call 29; refine KV.out.mono ?_; rintro e w2 ⟨⟨i, rfl, hi⟩, rfl⟩; obtain rfl := hi v rfl; clear hi)
          go_roundw
          case rel => exact .inr ⟨rfl, by first | rfl | trivial⟩
          case measure => simp [intOf]
        · subst hW
          go_wp2
          go_ret
          exact ⟨rfl, FrB.set _ 6 _, fun q hq => by injection hq with hq; subst hq; exact HP.out⟩
end Go.Proofs.YtccjeipkljdhdaaGreatDoor

namespace Go.Proofs.YtccjeipkljdhdaaGreatDoor
open Go.RowKit
set_option linter.unusedVariables false
set_option linter.unusedSimpArgs false

/-- A text is appended, where the order is drawn. -/
theorem step_stA {ops : Array Oper} {o : Oper} {a : Act} {K : Act → World → Prop} {Q : Exit → Act → World → Prop} {E : Prop} (w : World) (hgd : o.guard = none) (s x : Operand)
    (ho : o.op = .call { callee := .builtin .append, args := #[s, x], argTypes := #[23, 23] }) (B : Nat) (v : Value) (l : List ByteArray) (f : ByteArray) (hs : a.eval s = v)
    (hown : OwQ w B v l) (hx : a.eval x = .slice (some ⟨w.heap.size, 0, none⟩) 1 1) (hl : l.length ≤ 1000000000) (hb : B ≤ w.heap.size)
    (h : ∀ g cap w', OwQ w' B (.slice (some ⟨g, 0, none⟩) (l.length + 1) cap) (l ++ [f]) → (w.alloc (.cells #[.string f] 9)).grownBy w' v.ownBlock → (v.ownBlock = some g ∨ g = (w.alloc (.cells #[.string f] 9)).heap.size) → K (a.put o.dst (.slice (some ⟨g, 0, none⟩) (l.length + 1) cap)) w') :
    if Region.wanted o (yielded ops a.tmps) = true then Oper.wp Tryz.prog o a (w.alloc (.cells #[.string f] 9)) K Q else E := by
  obtain ⟨i0, hi, hz0, hz1, hz2⟩ := info_parts infoTq
  refine step_append_lies _ hgd s x 23 ho B 9 i0 (.string ⟨#[]⟩) 1 16 Tryz.underlying23 hi hz0 hz1 hz2 rfl (by decide) v _ _ hs (World.ownsRow.alloc hown _) ⟨w.heap.size, 0, none⟩ 1 1 [.string f] hx rfl ?_ ?_ (by omega) (by unfold maxLen; omega) (by omega) (by simp; omega) _ rfl (fun g cap w' h1 h2 h3 _ => h g cap w' (by
    unfold OwQ
    rw [List.length_append, List.map_append]
    exact h1) h2 h3)
  · intro j u hj
    match j, hj with
    | 0, hj => simp at hj; subst hj; simp [Addr.add]
  · intro u hu
    rw [List.mem_singleton.1 hu]; rfl
/-- The document's program, apart from a row. -/
def DsX (pb B xb : Nat) (W : World) (p : Ap) (m : Nat) : Prop := ∃ vn vu vp vd D, BkP W pb (dsA vn vu vp p.hor p.cells p.slots p.stack vd) 27 ∧ DsL pb B W p vn vu vp vd D m ∧ vn.ownBlock ≠ some xb ∧ vu.ownBlock ≠ some xb ∧ xb ≠ pb ∧ xb < W.heap.size
theorem DsX.ds {pb B xb m : Nat} {W : World} {p : Ap} (h : DsX pb B xb W p m) : DsP pb B W p m := by
  obtain ⟨vn, vu, vp, vd, D, hb, hl, _⟩ := h
  exact ⟨vn, vu, vp, vd, D, hb, hl⟩
theorem DsX.later {pb B xb m : Nat} {W W' : World} {p : Ap} (h : DsX pb B xb W p m) (b : Below W.heap.size W W') : DsX pb B xb W' p m := by
  obtain ⟨vn, vu, vp, vd, D, hb, hl, a1, a2, a3, a4⟩ := h
  exact ⟨vn, vu, vp, vd, D, (b.block pb hb.lt).trans hb, hl.later b, a1, a2, a3, Nat.lt_of_lt_of_le a4 b.size⟩
/-- The words of a line, in memory. -/
def WrW (xb xo : Nat) (W : World) (l : List ByteArray) : Prop := xb < W.heap.size ∧ ∀ i (h : i < l.length), W.cell? ⟨xb, xo + i, none⟩ = some (.string l[i])
theorem WrW.later {xb xo : Nat} {W W' : World} {l : List ByteArray} (h : WrW xb xo W l) (b : Below W.heap.size W W') : WrW xb xo W' l := ⟨Nat.lt_of_lt_of_le h.1 b.size, fun i hi => (b.cell (p := ⟨xb, xo + i, none⟩) h.1).trans (h.2 i hi)⟩
theorem WrW.grown {xb xo : Nat} {W W' : World} {l : List ByteArray} {r : Option Nat} (h : WrW xb xo W l) (g : W.grownBy W' r) (ne : r ≠ some xb) : WrW xb xo W' l :=
  ⟨Nat.lt_of_lt_of_le h.1 g.size, fun i hi => (World.cell?_of_block (a := ⟨xb, xo + i, none⟩) (g.block xb h.1 (fun e => ne e.symm))).trans (h.2 i hi)⟩
theorem WrW.set {xb xo pb j : Nat} {W : World} {l : List ByteArray} {v : Value} (h : WrW xb xo W l) (ne : xb ≠ pb) : WrW xb xo (W.setCell ⟨pb, j, none⟩ v) l :=
  h.grown (setCell_gr W pb j v) (fun e => by injection e with e; exact ne e.symm)
/-- A word more. -/
theorem DsX.ns1 {pb B xb m g cap : Nat} {W W' : World} {p : Ap} {vn vu vp vd : Value} {D : List Sg} (hb : BkP W pb (dsA vn vu vp p.hor p.cells p.slots p.stack vd) 27) (hl : DsL pb B W p vn vu vp vd D m) (a1 : vn.ownBlock ≠ some xb) (a2 : vu.ownBlock ≠ some xb) (a3 : xb ≠ pb) (a4 : xb < W.heap.size) (u : ByteArray)
    (gr : W.grownBy W' vn.ownBlock) (o : OwQ W' B (.slice (some ⟨g, 0, none⟩) (p.ns.length + 1) cap) (p.ns ++ [u])) (l : vn.ownBlock = some g ∨ g = W.heap.size) :
    DsX pb B xb (W'.setCell ⟨pb, 0, none⟩ (.slice (some ⟨g, 0, none⟩) (p.ns.length + 1) cap)) { p with ns := p.ns ++ [u] } m ∧ W'.cell? ⟨pb, 0, none⟩ = some vn ∧ W'.frozen? ⟨pb, 0, none⟩ = false ∧ FrB pb B W (W'.setCell ⟨pb, 0, none⟩ (.slice (some ⟨g, 0, none⟩) (p.ns.length + 1) cap)) := by
  have np : some pb ≠ vn.ownBlock := fun e => by have := (hl.on.lt pb e.symm).1; have := hl.pb_lt; omega
  have hb1 := hb.grown gr np
  have hl1 := hl.name u gr o (l.imp (fun q => by rw [q]; rfl) (fun q z e => by simp only [Value.ownBlock, Option.some.injEq] at e; omega))
  have ax : (Value.slice (some ⟨g, 0, none⟩) (p.ns.length + 1) cap).ownBlock ≠ some xb := fun e => by
    simp only [Value.ownBlock, Option.some.injEq] at e
    rcases l with q | q
    · exact a1 (q.trans (by rw [e]))
    · omega
  exact ⟨⟨_, _, _, _, D, hb1.set 0 _ (by simp [dsA]), hl1.setB 0 _, ax, a2, a3, by simpa using Nat.lt_of_lt_of_le a4 gr.size⟩, hb1.cell 0, hb1.frozen 0, (FrB.grown gr (fun z e => .inl (hl.on.lt z e).1)).trans (FrB.set _ 0 _)⟩
set_option maxRecDepth 100000 in
set_option maxHeartbeats 4000000 in
theorem listns_any {w : World} {pb B m : Nat} {p : Ap} {xb xo n c : Nat} {w0 : ByteArray} {ws : List ByteArray} (hne : ws ≠ []) (h : DsX pb B xb w p m) (h0 : p.ns = []) (hs : WrW xb xo w (w0 :: ws)) (hn : n = ws.length + 1) (hc : n ≤ 16777216) (hz : ∀ s ∈ w0 :: ws, s.size ≤ 16777216) :
    Calls Tryz.prog 55 #[.pointer (some ⟨pb, 0, none⟩), .slice (some ⟨xb, xo, none⟩) n c, .int .i64 0] w fun e w' => LsE pb B m (apList 0 ws p) w e w' := by
  have HS := Lib.hid hs
  have HZ := Lib.hid hz
  have HX := Lib.hid h
  have H0 := Lib.hid h0
  have NN := Lib.hid hn
  have e0 : apList 0 ws p = if ws.all capP = true then some { p with ns := ws } else none := by
    unfold apList
    rw [if_neg hne]
    rfl
  have n2 : ¬ (n : Int) < 2 := by
    have : 0 < ws.length := List.length_pos_iff.2 hne
    omega
  have n2' : 1 ≤ n := by omega
  rw [e0]
  clear e0 h h0 hs hz hn hne
  go_enter Tryz.func55, Tryz.ntmps55
  go_wp2
  go_loopw [7] (fun t W => ∃ j : Nat, 1 ≤ j ∧ j ≤ n ∧ t = .int .i64 (j : Int) ∧ RowKit.Hid ((ws.take (j - 1)).all capP = true) ∧ RowKit.Hid (DsX pb B xb W { p with ns := ws.take (j - 1) } m) ∧ RowKit.Hid (FrB pb B w W) ∧ RowKit.Hid (WrW xb xo W (w0 :: ws))) (fun t _ => n - (intOf t).toNat)
  case atStart => exact ⟨1, Nat.le_refl _, n2', rfl, rfl, by have z := HX.out; rw [show ({ p with ns := ws.take (1 - 1) } : Ap) = p by rw [show 1 - 1 = 0 from rfl, List.take_zero, ← H0.out]]; exact z, FrB.refl _ _ _, HS.out⟩
  case round =>
    rename World => W
    obtain ⟨j, j1, jn, rfl, HA, HD, HF, HW⟩ := hrel
    by_cases hlt : j < n
    · have jc : (j : Int) < (n : Int) := by omega
      have jl : j < (w0 :: ws).length := by rw [List.length_cons, ← NN.out]; exact hlt
      have jl2 : j - 1 < ws.length := by have := NN.out; omega
      have cw := HW.out.2 j jl
      have zz := HZ.out _ (List.getElem_mem jl)
      have ez : (w0 :: ws)[j] = ws[j - 1] := by
        obtain ⟨i, rfl⟩ : ∃ i, j = i + 1 := ⟨j - 1, by omega⟩
        rfl
      have TK := Lib.hid (p := ws.take (j + 1 - 1) = ws.take (j - 1) ++ [(w0 :: ws)[j]]) (by rw [ez, show j + 1 - 1 = (j - 1) + 1 by omega, List.take_succ_eq_append_getElem jl2])
      have TB := Lib.hid (p := capP (w0 :: ws)[j] = false → ws.all capP = false) (fun q => by
        rw [List.all_eq_false]
        exact ⟨ws[j - 1], List.getElem_mem jl2, by rw [← ez, q]; decide⟩)
      have LN := Lib.hid (p := (ws.take (j - 1)).length ≤ 1000000000) (by rw [List.length_take]; omega)
      have CW := Lib.hid (fun W' (b : WrW xb xo W' (w0 :: ws)) => b.2 j jl)
      generalize (w0 :: ws)[j] = z at *
      generalize ws.take (j - 1) = us at *
      have KV := Lib.hid (valueN_any z zz W)
      have KC := Lib.hid (p := Calls Tryz.prog 87 #[.string z] W fun e w' => e = .returned (.bool (capP z)) ∧ Below W.heap.size W w') (rcapitalName_any z W (by omega))
      clear ez jl zz
      obtain ⟨vn, vu, vp, vd, D, hb, hl, a1, a2, a3, a4⟩ := HD.out
      have HB := Lib.hid hb
      have HL := Lib.hid hl
      have AX := Lib.hid (And.intro a1 (And.intro a2 (And.intro a3 a4)))
      clear hb hl a1 a2 a3 a4 HD
      obtain ⟨C, hC⟩ : ∃ C, capP z = C := ⟨_, rfl⟩
      rw [hC] at KC
      rw [hC] at TB
      have HC := Lib.hid hC
      clear hC
      cases C
      · have AF := Lib.hid (TB.out rfl)
        clear TB
        go_wp2_with (first
          | (go_at_call 29; refine KV.out.mono ?_; rintro e w2 ⟨⟨i, rfl, hi⟩, rfl⟩; clear hi)
          | (go_at_call 87; refine KC.out.mono ?_; rintro e w3 ⟨rfl, h2⟩; have B3 := Lib.hid h2; clear h2))
        clear cw n2 n2'
        have D9 := Lib.hid (p := Below w3.heap.size w3 w3.drew) (Below.refl _ w3).drew
        have BD := Lib.hid (B3.out.trans (D9.out.mono B3.out.size))
        have A3 := Lib.hid (allocBP w3 (.cells #[.string z] 9))
        have BA := Lib.hid (BD.out.trans ((allocBP w3.drew (.cells #[.string z] 9)).mono BD.out.size))
        have HB3 := Lib.hid (p := BkP w3 pb (dsA vn vu vp p.hor p.cells p.slots p.stack vd) 27) ((B3.out.block pb HB.out.lt).trans HB.out)
        have cv := HB3.out.cell 0
        have cv2 := (A3.out.cell (p := ⟨pb, 0, none⟩) HB3.out.lt).trans cv
        have W3 := Lib.hid (HW.out.later B3.out)
        have cz := CW.out _ W3.out
        have cz2 := CW.out _ (W3.out.later A3.out)
        simp only [dsA, List.getElem?_toArray, List.getElem?_cons_zero, List.getElem?_cons_succ] at cv cv2
        have OW := Lib.hid (own_belQ HL.out.on BD.out)
        have BZ := Lib.hid (p := B ≤ w3.drew.heap.size) (Nat.le_trans HL.out.sz BD.out.size)
        have ND := Lib.hid (fun (g5 cap5 : Nat) (w5 : World) gr o l => DsX.ns1 (W := w3.drew.alloc (.cells #[.string z] 9)) (W' := w5) (g := g5) (cap := cap5) (p := { p with ns := us }) ((BA.out.block pb HB.out.lt).trans HB.out) (HL.out.later BA.out) AX.out.1 AX.out.2.1 AX.out.2.2.1 (Nat.lt_of_lt_of_le AX.out.2.2.2 BA.out.size) z gr o l)
        have NX := Lib.hid (p := vn.ownBlock ≠ some xb) AX.out.1
        have WX := Lib.hid (HW.out.later BA.out)
        go_region_law (refine step_stA w3.drew rfl _ _ rfl B vn us z rfl OW.out rfl LN.out BZ.out ?_; intro g5 cap5 w5 h1 h2 h3; have N5 := Lib.hid (ND.out g5 cap5 w5 h2 h1 h3); have k1 := N5.out.2.1; have k2 := N5.out.2.2.1; have W5 := Lib.hid (WX.out.grown h2 NX.out); clear h1 h2 h3)
        all_goals
          (try clear cv cv2 cz cz2 k1 k2)
          repeat (first | go_values | go_skip | go_guarded | go_step | go_upon)
          go_ret
          rw [AF.out]
          exact ⟨rfl, HF.out.trans ((FrB.below BA.out).trans N5.out.2.2.2), fun q hq => by cases hq⟩
      · clear TB
        go_wp2_with (first
          | (go_at_call 29; refine KV.out.mono ?_; rintro e w2 ⟨⟨i, rfl, hi⟩, rfl⟩; clear hi)
          | (go_at_call 87; refine KC.out.mono ?_; rintro e w3 ⟨rfl, h2⟩; have B3 := Lib.hid h2; clear h2))
        clear cw n2 n2'
        have D9 := Lib.hid (p := Below w3.heap.size w3 w3.drew) (Below.refl _ w3).drew
        have BD := Lib.hid (B3.out.trans (D9.out.mono B3.out.size))
        have A3 := Lib.hid (allocBP w3 (.cells #[.string z] 9))
        have BA := Lib.hid (BD.out.trans ((allocBP w3.drew (.cells #[.string z] 9)).mono BD.out.size))
        have HB3 := Lib.hid (p := BkP w3 pb (dsA vn vu vp p.hor p.cells p.slots p.stack vd) 27) ((B3.out.block pb HB.out.lt).trans HB.out)
        have cv := HB3.out.cell 0
        have cv2 := (A3.out.cell (p := ⟨pb, 0, none⟩) HB3.out.lt).trans cv
        have W3 := Lib.hid (HW.out.later B3.out)
        have cz := CW.out _ W3.out
        have cz2 := CW.out _ (W3.out.later A3.out)
        simp only [dsA, List.getElem?_toArray, List.getElem?_cons_zero, List.getElem?_cons_succ] at cv cv2
        have OW := Lib.hid (own_belQ HL.out.on BD.out)
        have BZ := Lib.hid (p := B ≤ w3.drew.heap.size) (Nat.le_trans HL.out.sz BD.out.size)
        have ND := Lib.hid (fun (g5 cap5 : Nat) (w5 : World) gr o l => DsX.ns1 (W := w3.drew.alloc (.cells #[.string z] 9)) (W' := w5) (g := g5) (cap := cap5) (p := { p with ns := us }) ((BA.out.block pb HB.out.lt).trans HB.out) (HL.out.later BA.out) AX.out.1 AX.out.2.1 AX.out.2.2.1 (Nat.lt_of_lt_of_le AX.out.2.2.2 BA.out.size) z gr o l)
        have NX := Lib.hid (p := vn.ownBlock ≠ some xb) AX.out.1
        have WX := Lib.hid (HW.out.later BA.out)
        go_region_law (refine step_stA w3.drew rfl _ _ rfl B vn us z rfl OW.out rfl LN.out BZ.out ?_; intro g5 cap5 w5 h1 h2 h3; have N5 := Lib.hid (ND.out g5 cap5 w5 h2 h1 h3); have k1 := N5.out.2.1; have k2 := N5.out.2.2.1; have W5 := Lib.hid (WX.out.grown h2 NX.out); clear h1 h2 h3)
        all_goals
          (try clear cv cv2 cz cz2 k1 k2)
          repeat (first | go_values | go_skip | go_guarded | go_step | go_upon)
          go_roundw
          case rel => exact ⟨j + 1, by omega, by omega, by go_num, by rw [TK.out, List.all_append, HA.out]; simp [HC.out]; trivial, by rw [TK.out]; exact N5.out.1, HF.out.trans ((FrB.below BA.out).trans N5.out.2.2.2), W5.out.set AX.out.2.2.1⟩
          case measure => simp [intOf]; omega
    · obtain rfl : j = n := by omega
      have AL := Lib.hid (p := ws.all capP = true) (by have := HA.out; rwa [List.take_of_length_le (by have := NN.out; omega)] at this)
      have DX := Lib.hid (p := DsX pb B xb W { p with ns := ws } m) (by have := HD.out; rwa [List.take_of_length_le (by have := NN.out; omega)] at this)
      go_wp2
      go_ret
      exact ⟨rfl, HF.out, fun q hq => by injection hq with hq; subst hq; exact DX.out.ds⟩
end Go.Proofs.YtccjeipkljdhdaaGreatDoor
