import Derived.Test.YtpfjnnkjoabgbaaGreatDoorXBN
import Derived.Test.YtpfjnnkjoabgbaaGreatDoorXBP
namespace Go.Proofs.YtpfjnnkjoabgbaaGreatDoor
open Go.RowKit
set_option linter.unusedVariables false
set_option linter.unusedSimpArgs false
set_option maxRecDepth 100000 in
theorem isWithin_yes {x l : Int} (h0 : 0 ≤ x) (h1 : x ≤ l) (w : World) : Calls Tryz.prog 49 #[.int .i64 x, .int .i64 l] w fun e w' => e = .returned (.bool true) ∧ w' = w := by
  have k0 : decide (0 ≤ x) = true := decide_eq_true h0
  have k1 : decide (x ≤ l) = true := decide_eq_true h1
  go_enter Tryz.func49, Tryz.ntmps49
  go_wp2
  go_ret
  exact ⟨by first | rfl | simp [k0, k1], rfl⟩
set_option maxRecDepth 100000 in
set_option maxHeartbeats 1600000 in
theorem mostSteps_any {w : World} {mb : Nat} {p : Pg} (c7 : w.cell? ⟨mb, 7, none⟩ = some (.slice p.da p.days.length p.dc)) (h : PV w p) (hd : dayP p) (t : Int) : Calls Tryz.prog 50 #[.pointer (some ⟨mb, 0, none⟩), .int .i64 t] w fun e w' => e = .returned (.int .i64 (stpN p.days t p.days.length : Int)) ∧ Below w.heap.size w w' := by
  have DR := Lib.hid h.days.2.2.2.2
  have TT := Lib.hid (p := ∀ k, k ≤ p.days.length → stpN p.days t k ≤ 262144) (fun k hk => Nat.le_trans (stpN_le k hk) (Nat.le_trans (tot_le hk) hd.2))
  have ND : p.days.length ≤ 4398046510976 := h.days.2.2.1
  generalize p.days = days at *
  generalize p.da = da at *
  generalize p.dc = dc at *
  clear h hd
  go_enter Tryz.func50, Tryz.ntmps50
  go_wp2
  go_loopw [5, 14] (fun a b wr => ∃ k : Nat, k ≤ days.length ∧ a = .int .i64 (stpN days t k : Int) ∧ b = .int .i64 (k : Int) ∧ Below w.heap.size w wr) (fun _ b _ => days.length - (intOf b).toNat)
  case atStart => exact ⟨0, by omega, rfl, rfl, Below.refl _ _⟩
  case round =>
    rename World => wr
    obtain ⟨k, hk, rfl, rfl, hB⟩ := hrel
    have BB := Lib.hid hB
    by_cases hlt : k < days.length
    · have kc : (k : Int) < (days.length : Int) := by omega
      have k0 : ¬ (k : Int) < 0 := by omega
      have ks : IntKind.i64.wrap ((k : Int) + 1) = (k : Int) + 1 := by simp [IntKind.wrap, IntKind.bits, IntKind.signed]; omega
      obtain ⟨x, o, hda, hx, hc⟩ := (DR.out.later hB).oneP (by omega)
      have c0 := hc k hlt 0 (by omega)
      have c1 := hc k hlt 1 (by omega)
      simp only [Sg.cs, Nat.add_zero, List.getD_cons_zero, List.getD_cons_succ] at c0 c1
      have T0 := TT.out (k + 1) (by omega)
      have BA := Lib.hid (p := ∀ o, Below w.heap.size w (wr.alloc o)) (fun o => hB.trans ((allocBP wr o).mono hB.size))
      by_cases z : (days.getD k default).day < t
      · have es : stpN days t (k + 1) = stpN days t k + (days.getD k default).code.length := by simp only [stpN]; rw [if_pos z]
        have kw : IntKind.i64.wrap ((stpN days t k : Int) + ((days.getD k default).code.length : Int)) = ((stpN days t (k + 1) : Nat) : Int) := by
          have gl : ∀ a b : Nat, a + b ≤ 262144 → IntKind.i64.wrap ((a : Int) + (b : Int)) = ((a + b : Nat) : Int) := by
            intro a b hab
            simp [IntKind.wrap, IntKind.bits, IntKind.signed]
            omega
          rw [es]
          exact gl _ _ (by omega)
        obtain ⟨S1, hS1⟩ : ∃ S, stpN days t (k + 1) = S := ⟨_, rfl⟩
        rw [hS1] at kw
        have HS := Lib.hid hS1
        clear es hS1 T0 hc hB
        generalize stpN days t k = S0 at *
        generalize days.getD k default = s at *
        obtain ⟨sd, sa, sc, sl⟩ := s
        simp only at c0 c1 z kw
        subst hda
        go_wp2
        refine ⟨⟨k + 1, by omega, by rw [HS.out], by simp, BA.out _⟩, ?_⟩
        simp [intOf]
        omega
      · have es : stpN days t (k + 1) = stpN days t k := by simp only [stpN]; rw [if_neg z]; rfl
        have HS := Lib.hid es
        clear es T0 hc hB
        generalize stpN days t k = S0 at *
        generalize days.getD k default = s at *
        obtain ⟨sd, sa, sc, sl⟩ := s
        simp only at c0 c1 z
        subst hda
        go_wp2
        refine ⟨⟨k + 1, by omega, by rw [HS.out], by simp, BA.out _⟩, ?_⟩
        simp [intOf]
        omega
    · have e : k = days.length := by omega
      subst e
      have kc : ¬ (days.length : Int) < (days.length : Int) := by omega
      clear hB
      go_wp2
      go_ret
      exact ⟨rfl, BB.out⟩
set_option maxRecDepth 100000 in
theorem cellsFit1_any (w : World) : Calls Tryz.prog 90 #[.int .i64 0] w fun e w' => e = .returned (.bool false) ∧ w' = w := by
  go_enter Tryz.func90, Tryz.ntmps90
  go_wp2
  go_ret
  exact ⟨rfl, rfl⟩
set_option maxRecDepth 100000 in
theorem idxZ_any {w : World} {a : Option Addr} {c : Nat} {l : List Int} (h : CeR w (.slice a l.length c) l) (hz : ∀ x ∈ l, x = 0) (hn : l.length ≤ 1000000) : Calls Tryz.prog 122 #[.slice a l.length c, .func (.func 90) #[] #[]] w fun e w' => e = .returned (.int .i64 (-1)) ∧ w' = w := by
  have CC := Lib.hid (p := ∀ k, k < l.length → ∃ g, a = some ⟨g, 0, none⟩ ∧ w.cell? ⟨g, k, none⟩ = some (.int .i64 0)) (fun k hk => by
    rcases h with ⟨rfl, _⟩ | h
    · simp at hk
    · obtain ⟨a', cap, e, _, hne⟩ := h.form
      injection e with e1 _ e3
      subst e1 e3
      obtain ⟨g, rfl, _, _⟩ := hne (by rintro rfl; simp at hk)
      refine ⟨g, rfl, ?_⟩
      rw [h.cell hk]
      have : l.getD k 0 = 0 := hz _ (by simp [List.getD, hk])
      rw [this])
  have KF := Lib.hid (fun (W : World) => cellsFit1_any W)
  clear h hz
  generalize l.length = n at *
  go_enter Tryz.func122, Tryz.ntmps122
  go_wp2
  go_loopw [8] (fun t wr => ∃ k : Nat, k ≤ n ∧ t = .int .i64 (k : Int) ∧ w = wr) (fun t _ => n - (intOf t).toNat)
  case atStart => exact ⟨0, by omega, rfl, rfl⟩
  case round =>
    obtain ⟨k, hk, rfl, rfl⟩ := hrel
    by_cases hlt : k < n
    · obtain ⟨g, rfl, c0⟩ := CC.out k hlt
      have kc : (k : Int) < (n : Int) := by omega
      have k0 : ¬ (k : Int) < 0 := by omega
      have ks : IntKind.i64.wrap ((k : Int) + 1) = (k : Int) + 1 := by simp [IntKind.wrap, IntKind.bits, IntKind.signed]; omega
      go_wp2_with (go_at_call 90; refine (KF.out _).mono ?_; rintro e w1 ⟨rfl, h2⟩; subst h2)
      refine ⟨⟨k + 1, by omega, by simp, by first | rfl | trivial⟩, ?_⟩
      simp [intOf]
      omega
    · obtain rfl : k = n := by omega
      go_wp2
      go_ret
      exact ⟨rfl, rfl⟩
set_option maxRecDepth 100000 in
theorem conZ_any {w : World} {a : Option Addr} {c : Nat} {l : List Int} (h : CeR w (.slice a l.length c) l) (hz : ∀ x ∈ l, x = 0) (hn : l.length ≤ 1000000) : Calls Tryz.prog 91 #[.slice a l.length c, .func (.func 90) #[] #[]] w fun e w' => e = .returned (.bool false) ∧ w' = w := by
  have KI := Lib.hid (idxZ_any h hz hn)
  clear h hz
  generalize l.length = n at *
  go_enter Tryz.func91, Tryz.ntmps91
  go_wp2_with (go_at_call 122; refine KI.out.mono ?_; rintro e w1 ⟨rfl, h2⟩; subst h2)
  go_ret
  exact ⟨rfl, rfl⟩
set_option maxRecDepth 100000 in
set_option maxHeartbeats 1600000 in
theorem cellsFit_yes {w : World} {mb : Nat} {t st ft dy : Int} {cells : List Int} {ca pa : Option Addr} {cc pn pc : Nat} (c4 : w.cell? ⟨mb, 4, none⟩ = some (.int .i64 (cells.length : Int))) (hm : mb < w.heap.size) (h : CeR w (.slice ca cells.length cc) cells) (hn : cells.length ≤ 1000000) (t0 : 0 ≤ t) (hz : t = 0 → ∀ x ∈ cells, x = 0) : Calls Tryz.prog 51 #[.pointer (some ⟨mb, 0, none⟩), .agg #[.int .i64 t, .int .i64 st, .slice ca cells.length cc, .slice pa pn pc, .int .i64 ft, .int .i64 dy]] w fun e w' => e = .returned (.bool true) ∧ Below w.heap.size w w' := by
  obtain ⟨W0, hW0⟩ : ∃ W, w.alloc (.cells #[.int .i64 t, .int .i64 st, .slice ca cells.length cc, .slice pa pn pc, .int .i64 ft, .int .i64 dy] 51) = W := ⟨_, rfl⟩
  have B0 : Below w.heap.size w W0 := by rw [← hW0]; exact allocBP w _
  have P0 : BkP W0 w.heap.size #[.int .i64 t, .int .i64 st, .slice ca cells.length cc, .slice pa pn pc, .int .i64 ft, .int .i64 dy] 51 := by rw [← hW0]; exact heapN w _
  obtain ⟨a0, a1, a2, a3, a4, a5⟩ := box_all6 P0
  have m4 : W0.cell? ⟨mb, 4, none⟩ = some (.int .i64 (cells.length : Int)) := (B0.cell (p := ⟨mb, 4, none⟩) hm).trans c4
  have KC := Lib.hid (p := t = 0 → Calls Tryz.prog 91 #[.slice ca cells.length cc, .func (.func 90) #[] #[]] W0.drew fun e w' => e = .returned (.bool false) ∧ w' = W0.drew) (fun z => conZ_any ((h.lat B0).lat (drew1 W0)) (hz z) hn)
  have KC1 := Lib.hid (p := t = 0 → Calls Tryz.prog 91 #[.slice ca cells.length cc, .func (.func 90) #[] #[]] W0 fun e w' => e = .returned (.bool false) ∧ w' = W0) (fun z => conZ_any (h.lat B0) (hz z) hn)
  have BE := Lib.hid (p := ∀ V, Below W0.heap.size W0 V → Below w.heap.size w V) (fun V b => B0.trans (b.mono B0.size))
  have HW := Lib.hid hW0
  clear P0 B0 hW0 h hz c4
  generalize cells.length = n at *
  by_cases z : t = 0
  · subst z
    have K0 := Lib.hid (KC.out rfl)
    have K1 := Lib.hid (KC1.out rfl)
    clear KC KC1
    go_enter Tryz.func51, Tryz.ntmps51
    go_upto_region 2 with fail
    rw [HW.out]
    go_region_with (go_at_call 91; first | (refine K0.out.mono ?_; rintro e w1 ⟨rfl, h2⟩; subst h2) | (refine K1.out.mono ?_; rintro e w1 ⟨rfl, h2⟩; subst h2))
    all_goals
      go_wp2
      go_ret
      exact ⟨rfl, BE.out _ (by first | exact drew1 _ | exact Below.refl _ _)⟩
  · have z1 : 0 < t := by omega
    have z2 : decide (0 < t) = true := decide_eq_true z1
    go_enter Tryz.func51, Tryz.ntmps51
    go_upto_region 2 with fail
    rw [HW.out]
    go_region
    all_goals
      go_wp2
      go_ret
      exact ⟨rfl, BE.out _ (by first | exact drew1 _ | exact Below.refl _ _)⟩
end Go.Proofs.YtpfjnnkjoabgbaaGreatDoor

namespace Go.Proofs.YtpfjnnkjoabgbaaGreatDoor
open Go.RowKit
set_option linter.unusedVariables false
set_option linter.unusedSimpArgs false
set_option maxRecDepth 100000 in
theorem idxO_any {w : World} {a : Option Addr} {z : Nat} {l : List Cl} (h : RwV w (.slice a l.length z) l) (ho : ∀ c ∈ l, (!c.h && (c.v != 0)) = false) (hn : l.length ≤ 1000000) : Calls Tryz.prog 123 #[.slice a l.length z, .func (.func 60) #[] #[]] w fun e w' => e = .returned (.int .i64 (-1)) ∧ Below w.heap.size w w' := by
  have CC0 := Lib.hid (p := ∀ k, k < l.length → ∃ y u, a = some ⟨y, u, none⟩ ∧ y < w.heap.size ∧ CC w y (u + k * 2) (l.getD k default) ∧ (!(l.getD k default).h && ((l.getD k default).v != 0)) = false) (fun k hk => by
    obtain ⟨a', z', e, h⟩ := h
    injection e with e1 _ e3
    subst e1 e3
    rcases h with rfl | ⟨y, u, cur, fr, rfl, e, hc⟩
    · simp at hk
    · exact ⟨y, u, rfl, (Array.getElem?_eq_some_iff.1 e).1, hc k hk, ho _ (by simp [List.getD, hk])⟩)
  have KF := Lib.hid (fun (c : Cl) (W : World) => isOdd_any c W)
  clear h ho
  generalize hl : l.length = n at *
  go_enter Tryz.func123, Tryz.ntmps123
  go_wp2
  go_loopw [8] (fun t wr => ∃ k : Nat, k ≤ n ∧ t = .int .i64 (k : Int) ∧ Below w.heap.size w wr) (fun t _ => n - (intOf t).toNat)
  case atStart => exact ⟨0, by omega, rfl, Below.refl _ _⟩
  case round =>
    rename World => wr
    obtain ⟨k, hk, rfl, hB⟩ := hrel
    have BB := Lib.hid hB
    by_cases hlt : k < n
    · obtain ⟨y, u, rfl, hy, hc, od⟩ := CC0.out k hlt
      obtain ⟨c0, c1⟩ := hc.later hB hy
      have kc : (k : Int) < (n : Int) := by omega
      have k0 : ¬ (k : Int) < 0 := by omega
      have ks : IntKind.i64.wrap ((k : Int) + 1) = (k : Int) + 1 := by simp [IntKind.wrap, IntKind.bits, IntKind.signed]; omega
      have K1 := Lib.hid (KF.out (l.getD k default) wr)
      rw [od] at K1
      generalize l.getD k default = f at *
      obtain ⟨fh, fv⟩ := f
      simp only at c0 c1 K1
      clear hc hB od
      go_wp2_with (go_at_call 60; refine K1.out.mono ?_; rintro e w1 ⟨rfl, h2⟩; have B1 := Lib.hid h2; clear h2)
      refine ⟨⟨k + 1, by omega, by simp, BB.out.trans (B1.out.mono BB.out.size)⟩, ?_⟩
      simp [intOf]
      omega
    · obtain rfl : k = n := by omega
      clear hB
      go_wp2
      go_ret
      exact ⟨rfl, BB.out⟩
set_option maxRecDepth 100000 in
theorem conO_any {w : World} {a : Option Addr} {z : Nat} {l : List Cl} (h : RwV w (.slice a l.length z) l) (ho : ∀ c ∈ l, (!c.h && (c.v != 0)) = false) (hn : l.length ≤ 1000000) : Calls Tryz.prog 93 #[.slice a l.length z, .func (.func 60) #[] #[]] w fun e w' => e = .returned (.bool false) ∧ Below w.heap.size w w' := by
  have KI := Lib.hid (idxO_any h ho hn)
  clear h ho
  generalize l.length = n at *
  go_enter Tryz.func93, Tryz.ntmps93
  go_wp2_with (go_at_call 123; refine KI.out.mono ?_; rintro e w1 ⟨rfl, h2⟩; have B1 := Lib.hid h2; clear h2)
  go_ret
  exact ⟨rfl, B1.out⟩
set_option maxRecDepth 100000 in
theorem pastFits1_any {w : World} {a : Option Addr} {z : Nat} {l : List Cl} (h : RwV w (.slice a l.length z) l) (ho : ∀ c ∈ l, (!c.h && (c.v != 0)) = false) (hn : l.length ≤ 1000000) {pb mb : Nat} (hp : w.cell? ⟨pb, 0, none⟩ = some (.pointer (some ⟨mb, 0, none⟩))) {na : Option Addr} {nc : Nat} (c0 : w.cell? ⟨mb, 0, none⟩ = some (.slice na l.length nc)) : Calls Tryz.prog 92 #[.slice a l.length z, .pointer (some ⟨pb, 0, none⟩)] w fun e w' => e = .returned (.bool false) ∧ Below w.heap.size w w' := by
  have KC := Lib.hid (conO_any h ho hn)
  clear h ho
  generalize l.length = n at *
  go_enter Tryz.func92, Tryz.ntmps92
  go_wp2_with (go_at_call 93; refine KC.out.mono ?_; rintro e w1 ⟨rfl, h2⟩; have B1 := Lib.hid h2; clear h2)
  go_ret
  exact ⟨rfl, B1.out⟩
set_option maxRecDepth 100000 in
set_option maxHeartbeats 1600000 in
theorem idxP_any {w : World} {a : Option Addr} {z m : Nat} {past : List (List Cl)} {vs : List Value} (h : PaV w (.slice a past.length z) past vs) (ho : ∀ l ∈ past, l.length = m ∧ ∀ c ∈ l, (!c.h && (c.v != 0)) = false) (hm : m ≤ 1000000) (hn : past.length ≤ 1000000) {pb mb : Nat} (hp : w.cell? ⟨pb, 0, none⟩ = some (.pointer (some ⟨mb, 0, none⟩))) {na : Option Addr} {nc : Nat} (c0 : w.cell? ⟨mb, 0, none⟩ = some (.slice na m nc)) (lp : pb < w.heap.size) (lm : mb < w.heap.size) : Calls Tryz.prog 124 #[.slice a past.length z, .func (.func 92) #[] #[.pointer (some ⟨pb, 0, none⟩)]] w fun e w' => e = .returned (.int .i64 (-1)) ∧ Below w.heap.size w w' := by
  have CC0 := Lib.hid (p := ∀ k, k < past.length → ∃ g o ra rz, a = some ⟨g, o, none⟩ ∧ (∀ W, Below w.heap.size w W → W.cell? ⟨g, o + k, none⟩ = some (.slice ra m rz) ∧ Calls Tryz.prog 92 #[.slice ra m rz, .pointer (some ⟨pb, 0, none⟩)] W fun e w' => e = .returned (.bool false) ∧ Below W.heap.size W w')) (fun k hk => by
    rcases h.form with ⟨_, e⟩ | ⟨g, o, cap, cur, e, e2, _, _, _, hc⟩
    · rw [e] at hk; simp at hk
    · injection e with e1 _ e3
      subst e1
      have mem : past.getD k [] ∈ past := by simp [List.getD, hk]
      obtain ⟨o1, o2⟩ := ho _ mem
      obtain ⟨ra, rz, hv, _⟩ := h.rows k hk
      refine ⟨g, o, ra, rz, rfl, fun W b => ?_⟩
      have q : w.cell? ⟨g, o + k, none⟩ = some (.slice ra m rz) := by
        have := hc k hk
        rw [hv, o1] at this
        simpa [World.cell?, e2] using this
      have r := (h.rows k hk).lat b
      rw [hv] at r
      have K := pastFits1_any r o2 (by omega) ((b.cell (p := ⟨pb, 0, none⟩) lp).trans hp) (na := na) (nc := nc) (by rw [o1]; exact (b.cell (p := ⟨mb, 0, none⟩) lm).trans c0)
      rw [o1] at K
      exact ⟨(b.cell (p := ⟨g, o + k, none⟩) (Array.getElem?_eq_some_iff.1 e2).1).trans q, K⟩)
  clear h ho hp c0
  generalize past.length = n at *
  go_enter Tryz.func124, Tryz.ntmps124
  go_wp2
  go_loopw [8] (fun t wr => ∃ k : Nat, k ≤ n ∧ t = .int .i64 (k : Int) ∧ Below w.heap.size w wr) (fun t _ => n - (intOf t).toNat)
  case atStart => exact ⟨0, by omega, rfl, Below.refl _ _⟩
  case round =>
    rename World => wr
    obtain ⟨k, hk, rfl, hB⟩ := hrel
    have BB := Lib.hid hB
    by_cases hlt : k < n
    · obtain ⟨g, o, ra, rz, rfl, hK⟩ := CC0.out k hlt
      obtain ⟨c0, K⟩ := hK wr hB
      have K1 := Lib.hid K
      have kc : (k : Int) < (n : Int) := by omega
      have k0 : ¬ (k : Int) < 0 := by omega
      have ks : IntKind.i64.wrap ((k : Int) + 1) = (k : Int) + 1 := by simp [IntKind.wrap, IntKind.bits, IntKind.signed]; omega
      clear hK K hB CC0
      go_wp2_with (go_at_call 92; refine K1.out.mono ?_; rintro e w1 ⟨rfl, h2⟩; have B1 := Lib.hid h2; clear h2)
      refine ⟨⟨k + 1, by omega, by simp, BB.out.trans (B1.out.mono BB.out.size)⟩, ?_⟩
      simp [intOf]
      omega
    · obtain rfl : k = n := by omega
      clear hB
      go_wp2
      go_ret
      exact ⟨rfl, BB.out⟩
set_option maxRecDepth 100000 in
theorem conP_any {w : World} {a : Option Addr} {z m : Nat} {past : List (List Cl)} {vs : List Value} (h : PaV w (.slice a past.length z) past vs) (ho : ∀ l ∈ past, l.length = m ∧ ∀ c ∈ l, (!c.h && (c.v != 0)) = false) (hm : m ≤ 1000000) (hn : past.length ≤ 1000000) {pb mb : Nat} (hp : w.cell? ⟨pb, 0, none⟩ = some (.pointer (some ⟨mb, 0, none⟩))) {na : Option Addr} {nc : Nat} (c0 : w.cell? ⟨mb, 0, none⟩ = some (.slice na m nc)) (lp : pb < w.heap.size) (lm : mb < w.heap.size) : Calls Tryz.prog 94 #[.slice a past.length z, .func (.func 92) #[] #[.pointer (some ⟨pb, 0, none⟩)]] w fun e w' => e = .returned (.bool false) ∧ Below w.heap.size w w' := by
  have KI := Lib.hid (idxP_any h ho hm hn hp c0 lp lm)
  clear h ho hp c0
  generalize past.length = n at *
  go_enter Tryz.func94, Tryz.ntmps94
  go_wp2_with (go_at_call 124; refine KI.out.mono ?_; rintro e w1 ⟨rfl, h2⟩; have B1 := Lib.hid h2; clear h2)
  go_ret
  exact ⟨rfl, B1.out⟩
end Go.Proofs.YtpfjnnkjoabgbaaGreatDoor

namespace Go.Proofs.YtpfjnnkjoabgbaaGreatDoor
open Go.RowKit
set_option linter.unusedVariables false
set_option linter.unusedSimpArgs false
set_option maxRecDepth 100000 in
set_option maxHeartbeats 1600000 in
theorem pastFits_yes {w : World} {mb : Nat} {t st ft dy back : Int} {past : List (List Cl)} {vs : List Value} {ca pa na : Option Addr} {cn cc pc m nc : Nat} (c0 : w.cell? ⟨mb, 0, none⟩ = some (.slice na m nc)) (c10 : w.cell? ⟨mb, 10, none⟩ = some (.int .i64 back)) (lm : mb < w.heap.size) (h : PaV w (.slice pa past.length pc) past vs) (ho : ∀ l ∈ past, l.length = m ∧ ∀ c ∈ l, (!c.h && (c.v != 0)) = false) (hm : m ≤ 1000000) (hn : past.length ≤ 1000000) (hl : (past.length : Int) = min t back) : Calls Tryz.prog 52 #[.pointer (some ⟨mb, 0, none⟩), .agg #[.int .i64 t, .int .i64 st, .slice ca cn cc, .slice pa past.length pc, .int .i64 ft, .int .i64 dy]] w fun e w' => e = .returned (.bool true) ∧ Below w.heap.size w w' := by
  obtain ⟨W0, hW0⟩ : ∃ W, (w.alloc (.cells #[.pointer (some ⟨mb, 0, none⟩)] 37)).alloc (.cells #[.int .i64 t, .int .i64 st, .slice ca cn cc, .slice pa past.length pc, .int .i64 ft, .int .i64 dy] 51) = W := ⟨_, rfl⟩
  have B0 : Below w.heap.size w W0 := by rw [← hW0]; exact (allocBP w _).trans ((allocBP (w.alloc _) _).mono (by simp))
  have Q0 : BkP W0 w.heap.size #[.pointer (some ⟨mb, 0, none⟩)] 37 := by rw [← hW0]; exact BkP.lat (heapN w _) (allocBP _ _)
  have P0 : BkP W0 (w.heap.size + 1) #[.int .i64 t, .int .i64 st, .slice ca cn cc, .slice pa past.length pc, .int .i64 ft, .int .i64 dy] 51 := by
    rw [← hW0]
    have := heapN (w.alloc (.cells #[.pointer (some ⟨mb, 0, none⟩)] 37)) (.cells #[.int .i64 t, .int .i64 st, .slice ca cn cc, .slice pa past.length pc, .int .i64 ft, .int .i64 dy] 51)
    rw [show (w.alloc (.cells #[.pointer (some ⟨mb, 0, none⟩)] 37)).heap.size = w.heap.size + 1 by simp] at this
    exact this
  have S0 : W0.heap.size = w.heap.size + 2 := by rw [← hW0]; simp
  obtain ⟨a0, a1, a2, a3, a4, a5⟩ := box_all6 P0
  have q0 : W0.cell? ⟨w.heap.size, 0, none⟩ = some (.pointer (some ⟨mb, 0, none⟩)) := by rw [Q0.cell]; rfl
  have m0 : W0.cell? ⟨mb, 0, none⟩ = some (.slice na m nc) := (B0.cell (p := ⟨mb, 0, none⟩) lm).trans c0
  have m10 : W0.cell? ⟨mb, 10, none⟩ = some (.int .i64 back) := (B0.cell (p := ⟨mb, 10, none⟩) lm).trans c10
  have KC := Lib.hid (p := ∀ V, Below W0.heap.size W0 V → Calls Tryz.prog 94 #[.slice pa past.length pc, .func (.func 92) #[] #[.pointer (some ⟨w.heap.size, 0, none⟩)]] V fun e w' => e = .returned (.bool false) ∧ Below V.heap.size V w') (fun V b => conP_any ((h.lat B0).lat b) ho hm hn (below_cell b q0) (below_cell b m0) (by have := b.size; omega) (by have := b.size; omega))
  have BE := Lib.hid (p := ∀ V, Below W0.heap.size W0 V → Below w.heap.size w V) (fun V b => B0.trans (b.mono B0.size))
  have CL := Lib.hid (p := ∀ V, Below W0.heap.size W0 V → V.cell? ⟨w.heap.size, 0, none⟩ = some (.pointer (some ⟨mb, 0, none⟩)) ∧ V.cell? ⟨w.heap.size + 1, 0, none⟩ = some (.int .i64 t) ∧ V.cell? ⟨w.heap.size + 1, 3, none⟩ = some (.slice pa past.length pc) ∧ V.cell? ⟨mb, 10, none⟩ = some (.int .i64 back)) (fun V b => ⟨below_cell b q0, below_cell b a0, below_cell b a3, below_cell b m10⟩)
  have HW := Lib.hid hW0
  have kl : (past.length : Int) = (if t ≤ back then t else back) := by rw [hl]; split <;> omega
  clear P0 Q0 B0 S0 hW0 h ho c0 c10 hl a0 a1 a2 a3 a4 a5 q0 m0 m10
  generalize past.length = n at *
  obtain ⟨q0, a0, a3, m10⟩ := CL.out W0 (Below.refl _ _)
  by_cases z : t ≤ back
  · rw [if_pos z] at kl
    have z1 : decide (t ≤ back) = true := decide_eq_true z
    have z2 : min t back = t := by omega
    subst kl
    go_enter Tryz.func52, Tryz.ntmps52
    go_upto_region 2 with fail
    rw [HW.out]
    go_region_held3 (fun w' => w'.cell? ⟨w.heap.size, 0, none⟩ = some (.pointer (some ⟨mb, 0, none⟩)) ∧ w'.cell? ⟨w.heap.size + 1, 0, none⟩ = some (.int .i64 (n : Int)) ∧ w'.cell? ⟨w.heap.size + 1, 3, none⟩ = some (.slice pa n pc) ∧ w'.cell? ⟨mb, 10, none⟩ = some (.int .i64 back))
      (go_keep)
      (first | (go_at_call 94; refine (KC.out _ (by first | exact drew1 _ | exact Below.refl _ _)).mono ?_; rintro e w1 ⟨rfl, h2⟩; have B1 := Lib.hid (p := Below W0.heap.size W0 w1) (by first | exact h2 | exact (drew1 W0).trans h2); obtain ⟨y0, y1, y2, y3⟩ := CL.out w1 B1.out; clear h2))
    all_goals
      go_wp2
      go_ret
      exact ⟨rfl, BE.out _ (by first | exact B1.out | exact B1.out.trans (drew1B2 _ _))⟩
  · rw [if_neg z] at kl
    have z1 : decide (t ≤ back) = false := decide_eq_false z
    have z2 : min t back = back := by omega
    have z3 : back < t := by omega
    subst kl
    go_enter Tryz.func52, Tryz.ntmps52
    go_upto_region 2 with fail
    rw [HW.out]
    go_region_held3 (fun w' => w'.cell? ⟨w.heap.size, 0, none⟩ = some (.pointer (some ⟨mb, 0, none⟩)) ∧ w'.cell? ⟨w.heap.size + 1, 0, none⟩ = some (.int .i64 t) ∧ w'.cell? ⟨w.heap.size + 1, 3, none⟩ = some (.slice pa n pc) ∧ w'.cell? ⟨mb, 10, none⟩ = some (.int .i64 (n : Int)))
      (go_keep)
      (first | (go_at_call 94; refine (KC.out _ (by first | exact drew1 _ | exact Below.refl _ _)).mono ?_; rintro e w1 ⟨rfl, h2⟩; have B1 := Lib.hid (p := Below W0.heap.size W0 w1) (by first | exact h2 | exact (drew1 W0).trans h2); obtain ⟨y0, y1, y2, y3⟩ := CL.out w1 B1.out; clear h2))
    all_goals
      go_wp2
      go_ret
      exact ⟨rfl, BE.out _ (by first | exact B1.out | exact B1.out.trans (drew1B2 _ _))⟩
end Go.Proofs.YtpfjnnkjoabgbaaGreatDoor

namespace Go.Proofs.YtpfjnnkjoabgbaaGreatDoor
open Go.RowKit
set_option linter.unusedVariables false
set_option linter.unusedSimpArgs false
set_option maxRecDepth 100000 in
set_option maxHeartbeats 1600000 in
theorem faultFits_yes {w : World} {mb : Nat} {p : Pg} {t st ft dy : Int} {ca pa : Option Addr} {cn cc pn pc : Nat} (c7 : w.cell? ⟨mb, 7, none⟩ = some (.slice p.da p.days.length p.dc)) (lm : mb < w.heap.size) (h : PV w p) (hd : dayP p) (h0 : 0 ≤ p.hor) (h1 : p.hor ≤ 3660) (t0 : 0 ≤ t) (t1 : t ≤ 100000) (f0 : ft = 0 → dy = 0) (fa : ft ≠ 0 → 0 < ft ∧ ft ≤ 3 ∧ dy = t - 1 ∧ dayCode p.days dy ≠ []) : Calls Tryz.prog 53 #[.pointer (some ⟨mb, 0, none⟩), .agg #[.int .i64 t, .int .i64 st, .slice ca cn cc, .slice pa pn pc, .int .i64 ft, .int .i64 dy]] w fun e w' => e = .returned (.bool true) ∧ Below w.heap.size w w' := by
  obtain ⟨W0, hW0⟩ : ∃ W, w.alloc (.cells #[.int .i64 t, .int .i64 st, .slice ca cn cc, .slice pa pn pc, .int .i64 ft, .int .i64 dy] 51) = W := ⟨_, rfl⟩
  have B0 : Below w.heap.size w W0 := by rw [← hW0]; exact allocBP w _
  have P0 : BkP W0 w.heap.size #[.int .i64 t, .int .i64 st, .slice ca cn cc, .slice pa pn pc, .int .i64 ft, .int .i64 dy] 51 := by rw [← hW0]; exact heapN w _
  obtain ⟨a0, a1, a2, a3, a4, a5⟩ := box_all6 P0
  have m7 : W0.cell? ⟨mb, 7, none⟩ = some (.slice p.da p.days.length p.dc) := (B0.cell (p := ⟨mb, 7, none⟩) lm).trans c7
  have BE := Lib.hid (p := ∀ V, Below W0.heap.size W0 V → Below w.heap.size w V) (fun V b => B0.trans (b.mono B0.size))
  have HW := Lib.hid hW0
  by_cases z : ft = 0
  · have z2 := f0 z
    subst z z2
    clear P0 B0 hW0 h f0 fa c7 m7
    go_enter Tryz.func53, Tryz.ntmps53
    go_upto_region 1 with fail
    rw [HW.out]
    go_wp2
    go_ret
    exact ⟨rfl, BE.out _ (Below.refl _ _)⟩
  · obtain ⟨k1, k2, k3, k4⟩ := fa z
    have KC := Lib.hid (p := Calls Tryz.prog 44 #[.pointer (some ⟨mb, 0, none⟩), .int .i64 dy] W0 fun e w' => ∃ a n c, e = .returned (.slice a n c) ∧ 0 < n ∧ Below W0.heap.size W0 w') ((codeOf_any m7 (h.later B0) hd h0 h1 dy).mono (fun e w' q => by
      obtain ⟨b, v, rfl, cd⟩ := q
      rcases cd with ⟨e, _⟩ | ⟨i, hi, _, e, rfl⟩
      · exact absurd e k4
      · refine ⟨_, _, _, rfl, ?_, b⟩
        rw [e] at k4
        exact List.length_pos_iff.2 k4))
    have z1 : (ft == 0) = false := by simpa using z
    have z2 : (ft != 0) = true := by simpa using z
    have kd : IntKind.i64.wrap (t - 1) = dy := by rw [k3]; simp [IntKind.wrap, IntKind.bits, IntKind.signed]; omega
    have d1 : decide (0 < ft) = true := decide_eq_true k1
    have d2 : decide (ft ≤ 3) = true := decide_eq_true k2
    clear P0 B0 hW0 h f0 fa c7 m7 k3 k4
    go_enter Tryz.func53, Tryz.ntmps53
    go_upto_region 1 with fail
    rw [HW.out]
    go_wp2_with (go_at_call 44; refine KC.out.mono ?_; rintro e w1 ⟨va, vn, vc, rfl, kn, b1⟩; have kq : decide (0 < vn) = true := decide_eq_true kn; have B1 := Lib.hid b1; clear b1)
    go_ret
    exact ⟨rfl, BE.out _ B1.out⟩
set_option maxRecDepth 100000 in
set_option maxHeartbeats 3200000 in
theorem admits_yes {D : Nat → Prop} {w : World} {mb : Nat} {p : Pg} {cev pav : Value} {s0 s : Ms} (m : McV D w mb p (vfyA p).2.2.2 cev pav s0) (hv : (vfyA p).1 = 0) (ok : MsOk p (vfyA p).2.2.2 s) (ad : AdM p s) {ca pa : Option Addr} {cc pc : Nat} {vs : List Value} (hc : CeR w (.slice ca s.cells.length cc) s.cells) (hp : PaV w (.slice pa s.past.length pc) s.past vs) : Calls Tryz.prog 33 #[.pointer (some ⟨mb, 0, none⟩), .agg #[.int .i64 s.today, .int .i64 s.steps, .slice ca s.cells.length cc, .slice pa s.past.length pc, .int .i64 s.fault, .int .i64 s.day]] w fun e w' => e = .returned (.bool true) ∧ Below w.heap.size w w' := by
  obtain ⟨n1, n2, n3, n4, n5, n6, n7, n8, hcan⟩ := nds_of hv
  have hd : dayP p := hcan.2.2.1
  have lm : mb < w.heap.size := (Array.getElem?_eq_some_iff.1 m.box).1
  obtain ⟨W0, hW0⟩ : ∃ W, w.alloc (.cells #[.int .i64 s.today, .int .i64 s.steps, .slice ca s.cells.length cc, .slice pa s.past.length pc, .int .i64 s.fault, .int .i64 s.day] 51) = W := ⟨_, rfl⟩
  have B0 : Below w.heap.size w W0 := by rw [← hW0]; exact allocBP w _
  have P0 : BkP W0 w.heap.size #[.int .i64 s.today, .int .i64 s.steps, .slice ca s.cells.length cc, .slice pa s.past.length pc, .int .i64 s.fault, .int .i64 s.day] 51 := by rw [← hW0]; exact heapN w _
  have t0 := ok.t0
  have t1 := ok.t1
  have CL := Lib.hid (p := ∀ V, Below W0.heap.size W0 V → (V.cell? ⟨w.heap.size, 0, none⟩ = some (.int .i64 s.today) ∧ V.cell? ⟨w.heap.size, 1, none⟩ = some (.int .i64 s.steps) ∧ V.cell? ⟨w.heap.size, 2, none⟩ = some (.slice ca s.cells.length cc) ∧ V.cell? ⟨w.heap.size, 3, none⟩ = some (.slice pa s.past.length pc) ∧ V.cell? ⟨w.heap.size, 4, none⟩ = some (.int .i64 s.fault) ∧ V.cell? ⟨w.heap.size, 5, none⟩ = some (.int .i64 s.day)) ∧ V.cell? ⟨mb, 3, none⟩ = some (.int .i64 p.hor) ∧ Below w.heap.size w V) (fun V b => by
    have mV := (m.lat B0).lat b
    obtain ⟨_, c3, _⟩ := mach_over mV.box
    exact ⟨box_all6 (P0.lat b), c3, B0.trans (b.mono B0.size)⟩)
  have bl : ∀ V, Below W0.heap.size W0 V → Below w.heap.size w V := fun V b => B0.trans (b.mono B0.size)
  have K1 := Lib.hid (fun (W : World) => isWithin_yes (l := p.hor + 1) ok.t0 ok.t1 W)
  have K2 := Lib.hid (fun (W : World) => isWithin_yes ok.s0 ad.st W)
  have KM := Lib.hid (p := ∀ V, Below W0.heap.size W0 V → Calls Tryz.prog 50 #[.pointer (some ⟨mb, 0, none⟩), .int .i64 s.today] V fun e w' => e = .returned (.int .i64 (stpN p.days s.today p.days.length : Int)) ∧ Below V.heap.size V w') (fun V b => mostSteps_any (mach_over (m.lat (bl V b)).box).2.2.1 (m.lat (bl V b)).prog hd s.today)
  have KC := Lib.hid (p := ∀ V, Below W0.heap.size W0 V → Calls Tryz.prog 51 #[.pointer (some ⟨mb, 0, none⟩), .agg #[.int .i64 s.today, .int .i64 s.steps, .slice ca s.cells.length cc, .slice pa s.past.length pc, .int .i64 s.fault, .int .i64 s.day]] V fun e w' => e = .returned (.bool true) ∧ Below V.heap.size V w') (fun V b => by
    have mV := m.lat (bl V b)
    have c4 : V.cell? ⟨mb, 4, none⟩ = some (.int .i64 p.cells) := by rw [mV.box.cell]; rfl
    have e : p.cells = (s.cells.length : Int) := by rw [ok.ce]; omega
    rw [e] at c4
    exact cellsFit_yes c4 (Array.getElem?_eq_some_iff.1 mV.box).1 (hc.lat (bl V b)) (by omega) ok.t0 ad.ce)
  have KP := Lib.hid (p := ∀ V, Below W0.heap.size W0 V → Calls Tryz.prog 52 #[.pointer (some ⟨mb, 0, none⟩), .agg #[.int .i64 s.today, .int .i64 s.steps, .slice ca s.cells.length cc, .slice pa s.past.length pc, .int .i64 s.fault, .int .i64 s.day]] V fun e w' => e = .returned (.bool true) ∧ Below V.heap.size V w') (fun V b => by
    have mV := m.lat (bl V b)
    obtain ⟨c0, _, _, _, c10, _⟩ := mach_over mV.box
    exact pastFits_yes c0 c10 (Array.getElem?_eq_some_iff.1 mV.box).1 (hp.lat (bl V b)) (fun l hl => ⟨(ok.pr l hl).1, ad.pr l hl⟩) (by omega) (by have := ok.pl; omega) ok.pl)
  have KF := Lib.hid (p := ∀ V, Below W0.heap.size W0 V → Calls Tryz.prog 53 #[.pointer (some ⟨mb, 0, none⟩), .agg #[.int .i64 s.today, .int .i64 s.steps, .slice ca s.cells.length cc, .slice pa s.past.length pc, .int .i64 s.fault, .int .i64 s.day]] V fun e w' => e = .returned (.bool true) ∧ Below V.heap.size V w') (fun V b => by
    have mV := m.lat (bl V b)
    exact faultFits_yes (mach_over mV.box).2.2.1 (Array.getElem?_eq_some_iff.1 mV.box).1 mV.prog hd n4 n5 ok.t0 (by omega) ok.f0 ad.fa)
  have ks : IntKind.i64.wrap (p.hor + 1) = p.hor + 1 := by simp [IntKind.wrap, IntKind.bits, IntKind.signed]; omega
  have HW := Lib.hid hW0
  clear P0 B0 hW0 m hv ok ad hc hp bl n1 n2 n3 n4 n5 n6 n7 n8 hcan hd t0 t1 lm
  generalize (stpN p.days s.today p.days.length : Int) = S at *
  generalize p.hor = hor at *
  obtain ⟨td, sp, ce, ps, fl, dd⟩ := s
  simp only at *
  generalize ce.length = cn at *
  generalize ps.length = pn at *
  go_enter Tryz.func33, Tryz.ntmps33
  go_upto_region 1 with fail
  rw [HW.out]
  obtain ⟨⟨a0, a1, a2, a3, a4, a5⟩, m3, _⟩ := CL.out W0 (Below.refl _ _)
  have M1 : True := trivial
  go_region_held3 (fun w' => w'.cell? ⟨w.heap.size, 0, none⟩ = some (.int .i64 td) ∧ w'.cell? ⟨w.heap.size, 1, none⟩ = some (.int .i64 sp) ∧ w'.cell? ⟨w.heap.size, 2, none⟩ = some (.slice ca cn cc) ∧ w'.cell? ⟨w.heap.size, 3, none⟩ = some (.slice pa pn pc) ∧ w'.cell? ⟨w.heap.size, 4, none⟩ = some (.int .i64 fl) ∧ w'.cell? ⟨w.heap.size, 5, none⟩ = some (.int .i64 dd) ∧ w'.cell? ⟨mb, 3, none⟩ = some (.int .i64 hor))
    (go_keep)
    (first
    | (go_at_call 49; have mm := M1; refine (K1.out _).mono ?_; rintro e wx ⟨rfl, hwx⟩; replace hwx := hwx.symm; subst hwx; clear M1 mm)
    | (go_at_call 50; refine (KM.out _ (by first | exact drew1 _ | exact Below.refl _ _)).mono ?_; rintro e w1 ⟨rfl, b1⟩; have B1 := Lib.hid (p := Below W0.heap.size W0 w1) (by first | exact b1 | exact (drew1 W0).trans b1); obtain ⟨⟨e0, e1, e2, e3, e4, e5⟩, em, _⟩ := CL.out w1 B1.out; clear b1)
    | (go_at_call 49; refine (K2.out _).mono ?_; rintro e wx ⟨rfl, hwx⟩; replace hwx := hwx.symm; subst hwx)
    | (go_at_call 51; refine (KC.out _ B1.out).mono ?_; rintro e w2 ⟨rfl, b2⟩; have B2 := Lib.hid (p := Below W0.heap.size W0 w2) (B1.out.trans (b2.mono B1.out.size)); obtain ⟨⟨g0, g1, g2, g3, g4, g5⟩, gm, _⟩ := CL.out w2 B2.out; clear b2)
    | (go_at_call 52; refine (KP.out _ B2.out).mono ?_; rintro e w3 ⟨rfl, b3⟩; have B3 := Lib.hid (p := Below W0.heap.size W0 w3) (B2.out.trans (b3.mono B2.out.size)); obtain ⟨⟨i0, i1, i2, i3, i4, i5⟩, im, _⟩ := CL.out w3 B3.out; clear b3)
    | (go_at_call 53; refine (KF.out _ B3.out).mono ?_; rintro e w4 ⟨rfl, b4⟩; have B4 := Lib.hid (p := Below W0.heap.size W0 w4) (B3.out.trans (b4.mono B3.out.size)); obtain ⟨⟨j0, j1, j2, j3, j4, j5⟩, jm, _⟩ := CL.out w4 B4.out; clear b4))
  all_goals
    go_wp2
    go_ret
    exact ⟨rfl, (CL.out _ (by first | exact B4.out | exact B4.out.trans (drew1B2 _ _))).2.2⟩
end Go.Proofs.YtpfjnnkjoabgbaaGreatDoor

namespace Go.Proofs.YtpfjnnkjoabgbaaGreatDoor
open Go.RowKit
set_option linter.unusedVariables false
set_option linter.unusedSimpArgs false
/-- What Resume answers to a state that fits. -/
structure RsmE (w : World) (p : Pg) (s : Ms) (e : Ending) (w' : World) : Prop where
  bel : Below w.heap.size w w'
  ret : ∃ mb q cev pav D, e = .returned (.tuple #[.pointer (some ⟨mb, 0, none⟩), .int .i64 0]) ∧ q.key = p.key ∧ McV D w' mb q (vfyA q).2.2.2 cev pav s ∧ w.heap.size ≤ mb ∧ (∀ g, cev.ownBlock = some g → w.heap.size ≤ g) ∧ (∀ g, pav.ownBlock = some g → w.heap.size ≤ g) ∧ (∀ k, D k → w.heap.size ≤ k)
/-- A state is put into a machine. -/
theorem mach_put {D : Nat → Prop} {w1 w3 : World} {mb : Nat} {q : Pg} {n : Nds} {cev0 pav0 : Value} {s0 s : Ms} (m : McV D w1 mb q n cev0 pav0 s0) (b : Below w1.heap.size w1 w3) {ca ga : Option Addr} {cc gc : Nat} {vs : List Value} (oz : OwZ w3 w1.heap.size (.slice ca s.cells.length cc) s.cells) (pv : PaV w3 (.slice ga s.past.length gc) s.past vs) (op : w3.ownsRow w1.heap.size 47 1 (.slice ga s.past.length gc) s.past.length vs) (ok : MsOk q n s) : McV D ((((((w3.setCell ⟨mb, 11, none⟩ (.int .i64 s.today)).setCell ⟨mb, 12, none⟩ (.int .i64 s.steps)).setCell ⟨mb, 13, none⟩ (.slice ca s.cells.length cc)).setCell ⟨mb, 14, none⟩ (.slice ga s.past.length gc)).setCell ⟨mb, 15, none⟩ (.int .i64 s.fault)).setCell ⟨mb, 16, none⟩ (.int .i64 s.day)) mb q n (.slice ca s.cells.length cc) (.slice ga s.past.length gc) s := by
  have bx := (m.lat b).box
  have h1 := (((((bx.set2 11 (.int .i64 s.today) (by simp [mArr])).set2 12 (.int .i64 s.steps) (by simp [mArr])).set2 13 (.slice ca s.cells.length cc) (by simp [mArr])).set2 14 (.slice ga s.past.length gc) (by simp [mArr])).set2 15 (.int .i64 s.fault) (by simp [mArr])).set2 16 (.int .i64 s.day) (by simp [mArr])
  have e1 : ((((((mArr q n s0.today s0.steps cev0 pav0 s0.fault s0.day).set! 11 (.int .i64 s.today)).set! 12 (.int .i64 s.steps)).set! 13 (.slice ca s.cells.length cc)).set! 14 (.slice ga s.past.length gc)).set! 15 (.int .i64 s.fault)).set! 16 (.int .i64 s.day) = mArr q n s.today s.steps (.slice ca s.cells.length cc) (.slice ga s.past.length gc) s.fault s.day := rfl
  rw [e1] at h1
  have h4 : ∀ k, k ≠ mb → ((((((w3.setCell ⟨mb, 11, none⟩ (.int .i64 s.today)).setCell ⟨mb, 12, none⟩ (.int .i64 s.steps)).setCell ⟨mb, 13, none⟩ (.slice ca s.cells.length cc)).setCell ⟨mb, 14, none⟩ (.slice ga s.past.length gc)).setCell ⟨mb, 15, none⟩ (.int .i64 s.fault)).setCell ⟨mb, 16, none⟩ (.int .i64 s.day)).heap[k]? = w3.heap[k]? := fun k hk => by simp only [bk_block hk]
  have h5 : ((((((w3.setCell ⟨mb, 11, none⟩ (.int .i64 s.today)).setCell ⟨mb, 12, none⟩ (.int .i64 s.steps)).setCell ⟨mb, 13, none⟩ (.slice ca s.cells.length cc)).setCell ⟨mb, 14, none⟩ (.slice ga s.past.length gc)).setCell ⟨mb, 15, none⟩ (.int .i64 s.fault)).setCell ⟨mb, 16, none⟩ (.int .i64 s.day)).heap.size = w3.heap.size := by simp only [set_size]
  have hb0 := ((((((Below.refl mb w3).setCell (p := ⟨mb, 11, none⟩) (by exact Nat.le_refl _) (.int .i64 s.today)).setCell (p := ⟨mb, 12, none⟩) (by exact Nat.le_refl _) (.int .i64 s.steps)).setCell (p := ⟨mb, 13, none⟩) (by exact Nat.le_refl _) (.slice ca s.cells.length cc)).setCell (p := ⟨mb, 14, none⟩) (by exact Nat.le_refl _) (.slice ga s.past.length gc)).setCell (p := ⟨mb, 15, none⟩) (by exact Nat.le_refl _) (.int .i64 s.fault)).setCell (p := ⟨mb, 16, none⟩) (by exact Nat.le_refl _) (.int .i64 s.day)
  generalize (((((w3.setCell ⟨mb, 11, none⟩ (.int .i64 s.today)).setCell ⟨mb, 12, none⟩ (.int .i64 s.steps)).setCell ⟨mb, 13, none⟩ (.slice ca s.cells.length cc)).setCell ⟨mb, 14, none⟩ (.slice ga s.past.length gc)).setCell ⟨mb, 15, none⟩ (.int .i64 s.fault)).setCell ⟨mb, 16, none⟩ (.int .i64 s.day) = V at *
  have kp : Kp w3 V (fun x => x = mb) := ⟨hb0.os, hb0.tape, hb0.output, by omega, fun x _ hn => h4 x hn⟩
  have nt : ∀ (y : Nat) (c : Array Value) (fr : Nat × Nat), y = mb → w3.heap[y]? ≠ some (.cells c 73 fr) := by
    rintro y c fr rfl z
    have := bx.symm.trans z
    injection this with this
    injection this with _ q
    exact absurd q (by decide)
  have oz' := own_blkG oz (fun g hg => h4 g (fun z => own_neB oz bx (by decide) (by rw [hg, z])))
  have op' := own_blkG op (fun g hg => h4 g (fun z => own_neB op bx (by decide) (by rw [hg, z])))
  have s1 := b.size
  refine ⟨h1, fun k hk => by have := m.dl k hk; omega, fun U a => m.pv U (fun k hk => (a k hk).trans ((h4 k (fun z => m.dm (z ▸ hk))).trans (b.block k (m.dl k hk)))), .inr (ownsRow_base oz' (Nat.zero_le _)), ⟨vs, own_pav op' (fun i hi => (pv.rows i hi).keep kp nt) pv.one⟩, m.dm, fun g hg z => ?_, fun g hg z => ?_, ok⟩
  · have := m.dl g z; have := (World.ownsRow.lt oz g hg).1; omega
  · have := m.dl g z; have := (World.ownsRow.lt op g hg).1; omega
set_option maxRecDepth 100000 in
set_option maxHeartbeats 3200000 in
theorem resume_any {w : World} {p : Pg} (h : PV w p) (hR : Rws w) (hU : Rul w) (hv : (vfyA p).1 = 0) {s : Ms} (ok : ∀ q : Pg, q.key = p.key → MsOk q (vfyA q).2.2.2 s) (ad : ∀ q : Pg, q.key = p.key → AdM q s) {ca pa : Option Addr} {cc pc : Nat} {vs : List Value} (hc : CeR w (.slice ca s.cells.length cc) s.cells) (hp : PaV w (.slice pa s.past.length pc) s.past vs) : Calls Tryz.prog 23 #[p.agg, .agg #[.int .i64 s.today, .int .i64 s.steps, .slice ca s.cells.length cc, .slice pa s.past.length pc, .int .i64 s.fault, .int .i64 s.day]] w fun e w' => RsmE w p s e w' := by
  obtain ⟨W0, hW0⟩ : ∃ W, (w.alloc p.box).alloc (.cells #[.int .i64 s.today, .int .i64 s.steps, .slice ca s.cells.length cc, .slice pa s.past.length pc, .int .i64 s.fault, .int .i64 s.day] 51) = W := ⟨_, rfl⟩
  have B0 : Below w.heap.size w W0 := by rw [← hW0]; exact (allocBP w p.box).trans ((allocBP (w.alloc p.box) _).mono (by simp))
  have P0 : BkP W0 w.heap.size #[.slice p.na p.names.length p.nc, .slice p.ua p.curs.length p.uc, .slice p.pa p.pool.length p.pc, .int .i64 p.hor, .int .i64 p.cells, .int .i64 p.slots, .int .i64 p.stack, .slice p.da p.days.length p.dc] 26 := by rw [← hW0]; exact BkP.lat (heapN w p.box) (allocBP _ _)
  have Q0 : BkP W0 (w.heap.size + 1) #[.int .i64 s.today, .int .i64 s.steps, .slice ca s.cells.length cc, .slice pa s.past.length pc, .int .i64 s.fault, .int .i64 s.day] 51 := by
    rw [← hW0]
    have := heapN (w.alloc p.box) (.cells #[.int .i64 s.today, .int .i64 s.steps, .slice ca s.cells.length cc, .slice pa s.past.length pc, .int .i64 s.fault, .int .i64 s.day] 51)
    rw [show (w.alloc p.box).heap.size = w.heap.size + 1 by simp] at this
    exact this
  obtain ⟨a0, a1, a2, a3, a4, a5, a6, a7⟩ := box_all8 P0
  have CL := Lib.hid (p := ∀ V, Below W0.heap.size W0 V → V.cell? ⟨w.heap.size + 1, 0, none⟩ = some (.int .i64 s.today) ∧ V.cell? ⟨w.heap.size + 1, 1, none⟩ = some (.int .i64 s.steps) ∧ V.cell? ⟨w.heap.size + 1, 2, none⟩ = some (.slice ca s.cells.length cc) ∧ V.cell? ⟨w.heap.size + 1, 3, none⟩ = some (.slice pa s.past.length pc) ∧ V.cell? ⟨w.heap.size + 1, 4, none⟩ = some (.int .i64 s.fault) ∧ V.cell? ⟨w.heap.size + 1, 5, none⟩ = some (.int .i64 s.day)) (fun V b => box_all6 (Q0.lat b))
  have KN := Lib.hid (p := Calls Tryz.prog 12 #[p.agg] W0 fun e w1 => ∃ mb q cev D, e = .returned (.tuple #[.pointer (some ⟨mb, 0, none⟩), .int .i64 0]) ∧ RowKit.Hid (Below W0.heap.size W0 w1 ∧ w.heap.size ≤ mb ∧ (Calls Tryz.prog 33 #[.pointer (some ⟨mb, 0, none⟩), .agg #[.int .i64 s.today, .int .i64 s.steps, .slice ca s.cells.length cc, .slice pa s.past.length pc, .int .i64 s.fault, .int .i64 s.day]] w1 fun e w' => e = .returned (.bool true) ∧ Below w1.heap.size w1 w') ∧ ∀ w2, Below w1.heap.size w1 w2 → Calls Tryz.prog 32 #[.agg #[.int .i64 s.today, .int .i64 s.steps, .slice ca s.cells.length cc, .slice pa s.past.length pc, .int .i64 s.fault, .int .i64 s.day]] w2 fun e w3 => ∃ ca3 cc3 ga gc, e = .returned (.agg #[.int .i64 s.today, .int .i64 s.steps, .slice ca3 s.cells.length cc3, .slice ga s.past.length gc, .int .i64 s.fault, .int .i64 s.day]) ∧ BkP w3 mb (mArr q (vfyA q).2.2.2 0 0 cev (.slice none 0 0) 0 0) 75 ∧ Below w.heap.size w w3 ∧ RowKit.Hid (Below w.heap.size w ((((((w3.setCell ⟨mb, 11, none⟩ (.int .i64 s.today)).setCell ⟨mb, 12, none⟩ (.int .i64 s.steps)).setCell ⟨mb, 13, none⟩ (.slice ca3 s.cells.length cc3)).setCell ⟨mb, 14, none⟩ (.slice ga s.past.length gc)).setCell ⟨mb, 15, none⟩ (.int .i64 s.fault)).setCell ⟨mb, 16, none⟩ (.int .i64 s.day)) → RsmE w p s (.returned (.tuple #[.pointer (some ⟨mb, 0, none⟩), .int .i64 0])) ((((((w3.setCell ⟨mb, 11, none⟩ (.int .i64 s.today)).setCell ⟨mb, 12, none⟩ (.int .i64 s.steps)).setCell ⟨mb, 13, none⟩ (.slice ca3 s.cells.length cc3)).setCell ⟨mb, 14, none⟩ (.slice ga s.past.length gc)).setCell ⟨mb, 15, none⟩ (.int .i64 s.fault)).setCell ⟨mb, 16, none⟩ (.int .i64 s.day))))) ((new_any (h.later B0) (hR.below B0) (hU.lat B0)).mono (fun e w1 z => by
    obtain ⟨mb, q, cev, D, rfl, k, m, g1, g2, g3⟩ := z.ok hv
    have hvq : (vfyA q).1 = 0 := by rw [vfyA_keyM k]; exact hv
    have b1 := z.bel
    have bw := B0.trans (b1.mono B0.size)
    have sz := B0.size
    obtain ⟨n1, n2, n3, n4, n5, n6, n7, n8, hcan⟩ := nds_of hvq
    have okq := ok q k
    refine ⟨mb, q, cev, D, rfl, b1, by omega, admits_yes m hvq okq (ad q k) (hc.lat bw) (hp.lat bw), fun w2 b2 => ?_⟩
    have bw2 := bw.trans (b2.mono bw.size)
    refine (copyState_any (hc.lat bw2) (hp.lat bw2) (by rw [okq.ce]; omega) (by have := okq.pl; have := okq.t1; omega) (fun i hi => by have := (okq.pr (s.past.getD i []) (by simp [List.getD, hi])).1; omega)).mono (fun e w3 y => ?_)
    obtain ⟨b3, ca3, cc3, ga, gc, us, rfl, oz, pv, op⟩ := y
    have m2 := m.lat b2
    refine ⟨ca3, cc3, ga, gc, rfl, (m2.lat b3).box, bw2.trans (b3.mono bw2.size), fun hb => ⟨hb, mb, q, _, _, D, rfl, k, mach_put m2 b3 oz pv op okq, by omega, fun g hg => ?_, fun g hg => ?_, fun x hx => by have := g3 x hx; omega⟩⟩
    · have := (World.ownsRow.lt oz g hg).1; have := bw2.size; omega
    · have := (World.ownsRow.lt op g hg).1; have := bw2.size; omega))
  have HW := Lib.hid hW0
  clear P0 Q0 B0 hW0 h hR hU hv ok ad hc hp
  obtain ⟨td, sp, ce, ps, fl, dd⟩ := s
  simp only at *
  generalize ce.length = cn at *
  generalize ps.length = pn at *
  generalize hP : RsmE w p ⟨td, sp, ce, ps, fl, dd⟩ = P at *
  unfold Pg.agg Pg.box at *
  obtain ⟨na, nc, names, ua, uc, curs, pra, prc, pool, hor, cells, slots, stack, da, dc, days⟩ := p
  simp only at *
  go_enter Tryz.func23, Tryz.ntmps23
  go_wp2_with fail
  go_at_call 12
  rw [HW.out]
  refine KN.out.mono ?_
  rintro e w1 ⟨mb, q, cev, D, rfl, hk⟩
  obtain ⟨b1, gm, ka, kc⟩ := hk.out
  obtain ⟨x0, x1, x2, x3, x4, x5⟩ := CL.out w1 b1
  have KA := Lib.hid ka
  have KC := Lib.hid kc
  have B1 := Lib.hid b1
  clear KN hk b1 ka kc a0 a1 a2 a3 a4 a5 a6 a7
  go_wp2_with fail
  go_at_call 33
  refine KA.out.mono ?_
  rintro e w2 ⟨rfl, b2⟩
  have K3 := Lib.hid (KC.out w2 b2)
  obtain ⟨y0, y1, y2, y3, y4, y5⟩ := CL.out w2 (B1.out.trans (b2.mono B1.out.size))
  clear KA KC b2 x0 x1 x2 x3 x4 x5
  go_wp2_with fail
  go_at_call 32
  refine K3.out.mono ?_
  rintro e w3 ⟨ca3, cc3, ga, gc, rfl, bx, bw, hE⟩
  unfold mArr at bx
  have z11 : w3.cell? ⟨mb, 11, none⟩ = some (.int .i64 0) := by rw [bx.cell]; rfl
  have z12 : w3.cell? ⟨mb, 12, none⟩ = some (.int .i64 0) := by rw [bx.cell]; rfl
  have z13 : w3.cell? ⟨mb, 13, none⟩ = some cev := by rw [bx.cell]; rfl
  have z14 : w3.cell? ⟨mb, 14, none⟩ = some (.slice none 0 0) := by rw [bx.cell]; rfl
  have z15 : w3.cell? ⟨mb, 15, none⟩ = some (.int .i64 0) := by rw [bx.cell]; rfl
  have z16 : w3.cell? ⟨mb, 16, none⟩ = some (.int .i64 0) := by rw [bx.cell]; rfl
  have f11 := bx.frozen 11
  have f12 := bx.frozen 12
  have f13 := bx.frozen 13
  have f14 := bx.frozen 14
  have f15 := bx.frozen 15
  have f16 := bx.frozen 16
  have BW := Lib.hid bw
  clear K3 bx bw y0 y1 y2 y3 y4 y5
  go_wp2
  exact hE.out ((((((BW.out.setCell (by exact gm) _).setCell (by exact gm) _).setCell (by exact gm) _).setCell (by exact gm) _).setCell (by exact gm) _).setCell (by exact gm) _)
end Go.Proofs.YtpfjnnkjoabgbaaGreatDoor
