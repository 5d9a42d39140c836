import Derived.Test.YtccjeipkljdhdaaGreatDoorXAE
namespace Go.Proofs.YtccjeipkljdhdaaGreatDoor
open Go.RowKit
set_option linter.unusedVariables false
set_option linter.unusedSimpArgs false
set_option maxRecDepth 100000 in
set_option maxHeartbeats 1000000 in
theorem sameTexts13_any {w : World} {a a' : Option Addr} {n c c' : Nat} {ss : List ByteArray} (h : SR w a n c ss) (h' : SR w a' n c' ss) :
    Calls Tryz.prog 18 #[.slice a n c, .slice a' n c'] w fun e w' => e = .returned (.bool true) ∧ ∃ q, w' = w.drewN q := by
  obtain ⟨_, l1, b1, _, r1⟩ := h
  obtain ⟨_, l2, b2, _, r2⟩ := h'
  have HA := Lib.hid (r1.twoP r2)
  clear l1 l2 r1 r2
  go_enter Tryz.func18, Tryz.ntmps18
  go_wp2
  go_loopw [5] (fun t wr => ∃ k : Nat, k ≤ n ∧ t = .int .i64 k ∧ ∃ q, wr = w.drewN q) (fun t _ => n - (intOf t).toNat)
  case atStart => exact ⟨0, by omega, rfl, 0, rfl⟩
  case round =>
    obtain ⟨k, hk, rfl, q, rfl⟩ := hrel
    by_cases hlt : k < n
    · obtain ⟨x, o, y, p, rfl, rfl, hc⟩ := HA.out (by omega)
      obtain ⟨c0, d0⟩ := hc k hlt 0 (by omega)
      simp only [Nat.mul_one, Nat.add_zero, List.getD_cons_zero] at c0 d0
      have kc : (k : Int) < (n : Int) := by omega
      clear hc
      generalize ss.getD k default = z at *
      go_wp2
      go_quiet (fail)
      go_wp2
      go_roundw
      case rel => exact ⟨k + 1, by omega, by go_num, _, by first | rfl | exact World.drewN_drewN _ _ _⟩
      case measure => simp [intOf]; omega
    · obtain rfl : k = n := by omega
      go_wp2
      go_ret
      exact ⟨rfl, _, rfl⟩
set_option maxRecDepth 100000 in
set_option maxHeartbeats 1000000 in
theorem sameInts13_any {w : World} {a a' : Option Addr} {n c c' : Nat} {ss : List Int} (h : NR w a n c ss) (h' : NR w a' n c' ss) :
    Calls Tryz.prog 19 #[.slice a n c, .slice a' n c'] w fun e w' => e = .returned (.bool true) ∧ ∃ q, w' = w.drewN q := by
  obtain ⟨_, l1, b1, _, r1⟩ := h
  obtain ⟨_, l2, b2, _, r2⟩ := h'
  have HA := Lib.hid (r1.twoP r2)
  clear l1 l2 r1 r2
  go_enter Tryz.func19, Tryz.ntmps19
  go_wp2
  go_loopw [5] (fun t wr => ∃ k : Nat, k ≤ n ∧ t = .int .i64 k ∧ ∃ q, wr = w.drewN q) (fun t _ => n - (intOf t).toNat)
  case atStart => exact ⟨0, by omega, rfl, 0, rfl⟩
  case round =>
    obtain ⟨k, hk, rfl, q, rfl⟩ := hrel
    by_cases hlt : k < n
    · obtain ⟨x, o, y, p, rfl, rfl, hc⟩ := HA.out (by omega)
      obtain ⟨c0, d0⟩ := hc k hlt 0 (by omega)
      simp only [Nat.mul_one, Nat.add_zero, List.getD_cons_zero] at c0 d0
      have kc : (k : Int) < (n : Int) := by omega
      clear hc
      generalize ss.getD k 0 = z at *
      go_wp2
      go_quiet (fail)
      go_wp2
      go_roundw
      case rel => exact ⟨k + 1, by omega, by go_num, _, by first | rfl | exact World.drewN_drewN _ _ _⟩
      case measure => simp [intOf]; omega
    · obtain rfl : k = n := by omega
      go_wp2
      go_ret
      exact ⟨rfl, _, rfl⟩
set_option maxRecDepth 100000 in
set_option maxHeartbeats 1000000 in
theorem sameCode13_any {w : World} {a a' : Option Addr} {n c c' : Nat} {ss : List In} (h : IR w a n c ss) (h' : IR w a' n c' ss) :
    Calls Tryz.prog 20 #[.slice a n c, .slice a' n c'] w fun e w' => e = .returned (.bool true) ∧ ∃ q, w' = w.drewN q := by
  obtain ⟨_, l1, b1, _, r1⟩ := h
  obtain ⟨_, l2, b2, _, r2⟩ := h'
  have HA := Lib.hid (r1.twoP r2)
  clear l1 l2 r1 r2
  go_enter Tryz.func20, Tryz.ntmps20
  go_wp2
  go_loopw [5] (fun t wr => ∃ k : Nat, k ≤ n ∧ t = .int .i64 k ∧ ∃ q, wr = w.drewN q) (fun t _ => n - (intOf t).toNat)
  case atStart => exact ⟨0, by omega, rfl, 0, rfl⟩
  case round =>
    obtain ⟨k, hk, rfl, q, rfl⟩ := hrel
    by_cases hlt : k < n
    · obtain ⟨x, o, y, p, rfl, rfl, hc⟩ := HA.out (by omega)
      obtain ⟨c0, d0⟩ := hc k hlt 0 (by omega)
      obtain ⟨c1, d1⟩ := hc k hlt 1 (by omega)
      obtain ⟨c2, d2⟩ := hc k hlt 2 (by omega)
      simp only [icell, Nat.add_zero, List.getD_cons_zero, List.getD_cons_succ] at c0 d0 c1 d1 c2 d2
      have kc : (k : Int) < (n : Int) := by omega
      clear hc
      generalize ss.getD k default = z at *
      obtain ⟨zo, za, zb⟩ := z
      simp only at c0 d0 c1 d1 c2 d2
      go_wp2
      go_quiet (fail)
      go_wp2
      go_roundw
      case rel => exact ⟨k + 1, by omega, by go_num, _, by first | rfl | exact World.drewN_drewN _ _ _⟩
      case measure => simp [intOf]; omega
    · obtain rfl : k = n := by omega
      go_wp2
      go_ret
      exact ⟨rfl, _, rfl⟩
theorem two_box13 (w : World) (o1 o2 : Obj) : ((w.alloc o1).alloc o2).heap[w.heap.size]? = some o1 ∧ ((w.alloc o1).alloc o2).heap[w.heap.size + 1]? = some o2 :=
  ⟨(Below.heap_alloc _ _ _ (by simp)).trans (heapN w o1), by simpa using heapN (w.alloc o1) o2⟩
theorem box_all813 {w : World} {x : Nat} {a b c d e f g h : Value} {t : TypeId} (k : w.heap[x]? = some (.cells #[a, b, c, d, e, f, g, h] t)) : w.cell? ⟨x, 0, none⟩ = some a ∧ w.cell? ⟨x, 1, none⟩ = some b ∧ w.cell? ⟨x, 2, none⟩ = some c ∧ w.cell? ⟨x, 3, none⟩ = some d ∧ w.cell? ⟨x, 4, none⟩ = some e ∧ w.cell? ⟨x, 5, none⟩ = some f ∧ w.cell? ⟨x, 6, none⟩ = some g ∧ w.cell? ⟨x, 7, none⟩ = some h := by
  refine ⟨?_, ?_, ?_, ?_, ?_, ?_, ?_, ?_⟩ <;> simp [World.cell?, k]
set_option maxRecDepth 100000 in
set_option maxHeartbeats 40000000 in
theorem same13_any {w : World} {p q : Pg} (h : PV w p) (h' : PV w q) (hk : q.key = p.key) :
    Calls Tryz.prog 8 #[p.agg, q.agg] w fun e w' => e = .returned (.bool true) ∧ Below w.heap.size w w' := by
  obtain ⟨k0, k1, k2, k3, k4, k5, k6, k7⟩ := key_of hk
  have nl : q.days.length = p.days.length := by have := congrArg List.length k7; simpa using this
  have DK := Lib.hid (p := ∀ i, (q.days.getD i default).key = (p.days.getD i default).key) (keys_at k7)
  have HP := Lib.hid h
  have HQ := Lib.hid h'
  clear h h' hk k7
  unfold Pg.agg
  have B0 := Lib.hid (alloc2 w p.box q.box)
  unfold Pg.box at B0
  obtain ⟨na, nc, names, ua, uc, curs, pa, pc, pool, hor, cells, slots, stack, da, dc, days⟩ := p
  obtain ⟨na', nc', names', ua', uc', curs', pa', pc', pool', hor', cells', slots', stack', da', dc', days'⟩ := q
  simp only at k0 k1 k2 k3 k4 k5 k6 nl DK B0 ⊢
  subst k0 k1 k2 k3 k4 k5 k6
  have KN := Lib.hid (fun W (b : Below w.heap.size w W) => sameTexts13_any (HP.out.names.later b) (HQ.out.names.later b))
  have KU := Lib.hid (fun W (b : Below w.heap.size w W) => sameTexts13_any (HP.out.curs.later b) (HQ.out.curs.later b))
  have KP := Lib.hid (fun W (b : Below w.heap.size w W) => sameInts13_any (HP.out.pool.later b) (HQ.out.pool.later b))
  have DR := Lib.hid (fun W (b : Below w.heap.size w W) => (HP.out.days.2.2.2.2.later b))
  have ER := Lib.hid (fun W (b : Below w.heap.size w W) => (HQ.out.days.2.2.2.2.later b))
  have DG := Lib.hid HP.out.days.2.2.2.1
  have EG := Lib.hid HQ.out.days.2.2.2.1
  have db := HP.out.days.2.2.1
  simp only at KN KU KP DR ER DG EG db
  clear HP HQ
  generalize hd : days.length = nd at *
  generalize hd' : days'.length = nd' at *
  subst nl
  have LD := Lib.hid hd
  have LD' := Lib.hid hd'
  clear hd hd'
  have Q1 : True := trivial
  go_enter Tryz.func8, Tryz.ntmps8
  go_wp2_with (first
    | (go_at_call 18; have qq := Q1; refine (KN.out _ B0.out).mono ?_; rintro e w1 ⟨rfl, q1, rfl⟩; have B1 := Lib.hid (B0.out.trans ((drewBP _ q1).mono B0.out.size)); clear Q1)
    | (go_at_call 18; refine (KU.out _ B1.out).mono ?_; rintro e w2 ⟨rfl, q2, rfl⟩; have B2 := B1.out.trans ((drewBP _ q2).mono B1.out.size); rw [World.drewN_drewN] at B2; have B2 := Lib.hid B2)
    | (go_at_call 19; refine (KP.out _ B2.out).mono ?_; rintro e w3 ⟨rfl, q3, rfl⟩))
  clear KN KU KP B1 B2
  obtain ⟨tb1, tb2⟩ := two_box13 w (.cells #[.slice na names'.length nc, .slice ua curs'.length uc, .slice pa pool'.length pc, .int .i64 hor', .int .i64 cells', .int .i64 slots', .int .i64 stack', .slice da nd' dc] 27) (.cells #[.slice na' names'.length nc', .slice ua' curs'.length uc', .slice pa' pool'.length pc', .int .i64 hor', .int .i64 cells', .int .i64 slots', .int .i64 stack', .slice da' nd' dc'] 27)
  generalize hW0 : (w.alloc (.cells #[.slice na names'.length nc, .slice ua curs'.length uc, .slice pa pool'.length pc, .int .i64 hor', .int .i64 cells', .int .i64 slots', .int .i64 stack', .slice da nd' dc] 27)).alloc (.cells #[.slice na' names'.length nc', .slice ua' curs'.length uc', .slice pa' pool'.length pc', .int .i64 hor', .int .i64 cells', .int .i64 slots', .int .i64 stack', .slice da' nd' dc'] 27) = W0 at *
  obtain ⟨_, _, x2, x3, x4, x5, x6, x7⟩ := box_all813 tb1
  obtain ⟨_, _, y2, y3, y4, y5, y6, y7⟩ := box_all813 tb2
  clear hW0 tb1 tb2
  go_loopw [5] (fun t wr => ∃ k : Nat, k ≤ nd' ∧ t = .int .i64 (k : Int) ∧ ∃ z, wr = W0.drewN z) (fun t _ => nd' - (intOf t).toNat)
  case atStart => exact ⟨0, by omega, rfl, _, rfl⟩
  case round =>
    obtain ⟨m, hm, rfl, z, rfl⟩ := hrel
    by_cases hlt : m < nd'
    · obtain ⟨x, o, y, p, rfl, rfl, hc⟩ := (DR.out _ B0.out).twoP (ER.out _ B0.out) (by omega)
      obtain ⟨c0, d0⟩ := hc m hlt 0 (by omega)
      obtain ⟨c1, d1⟩ := hc m hlt 1 (by omega)
      simp only [Sg.cs, Nat.add_zero, List.getD_cons_zero, List.getD_cons_succ] at c0 d0 c1 d1
      have kc : (m : Int) < (nd' : Int) := by omega
      have I1 := (DG.out _ (sg_mem (i := m) (by rw [LD.out]; exact hlt))).2
      have I2 := (EG.out _ (sg_mem (i := m) (by rw [LD'.out]; exact hlt))).2
      have ke := DK.out m
      clear hc
      generalize days.getD m default = s1 at *
      generalize days'.getD m default = s2 at *
      obtain ⟨sd, sa, sc, sl⟩ := s1
      obtain ⟨td, ta, tc, tl⟩ := s2
      unfold Sg.key at ke
      injection ke with e1 e2
      simp only at c0 d0 c1 d1 I1 I2 e1 e2
      subst e1 e2
      have KS := Lib.hid (fun W (b : Below w.heap.size w W) => sameCode13_any (I1.later b) (I2.later b))
      clear I1 I2
      go_wp2
      go_region_held3 (fun w' => w'.cell? ⟨x, o + m * 2, none⟩ = some (.int .i64 td) ∧ w'.cell? ⟨x, o + m * 2 + 1, none⟩ = some (.slice sa tl.length sc) ∧ w'.cell? ⟨y, p + m * 2, none⟩ = some (.int .i64 td) ∧ w'.cell? ⟨y, p + m * 2 + 1, none⟩ = some (.slice ta tl.length tc) ∧ w'.cell? ⟨w.heap.size, 7, none⟩ = some (.slice (some ⟨x, o, none⟩) nd' dc) ∧ w'.cell? ⟨w.heap.size + 1, 7, none⟩ = some (.slice (some ⟨y, p, none⟩) nd' dc'))
        (refine ⟨?_, ?_, ?_, ?_, ?_, ?_⟩ <;> first | assumption | (go_simp; done))
        (first
        | (go_at_call 20; refine (KS.out _ (by exact B0.out.trans ((drewBP _ _).mono B0.out.size))).mono ?_; rintro e w3 ⟨rfl, i3, rfl⟩))
      go_wp2
      go_roundw
      case rel => exact ⟨m + 1, by omega, by go_num, _, by first | rfl | simp only [World.drewN_drewN]⟩
      case measure => simp [intOf]; omega
    · obtain rfl : m = nd' := by omega
      go_wp2
      go_ret
      exact ⟨rfl, B0.out.trans ((drewBP _ _).mono B0.out.size)⟩
end Go.Proofs.YtccjeipkljdhdaaGreatDoor
