import Derived.Test.YtpfjnnkjoabgbaaGreatDoorXAD
import Derived.Laws.AppendOwnNone
import Derived.Deep.AppendLies
import Derived.Deep.RegionLaw
namespace Go.Proofs.YtpfjnnkjoabgbaaGreatDoor
open Go.RowKit
set_option linter.unusedVariables false
set_option linter.unusedSimpArgs false
theorem pow_lt64V {k : Nat} (h : k < 64) : 2 ^ k < 18446744073709551616 := by
  have : 2 ^ k < 2 ^ 64 := Nat.pow_lt_pow_right (by omega) h
  simpa using this
theorem wrap_powV {k : Nat} (h : k < 64) : IntKind.u64.wrap (2 ^ k) = ((2 ^ k : Nat) : Int) := by
  have := pow_lt64V h
  rw [show (2 : Int) ^ k = ((2 ^ k : Nat) : Int) by simp]
  generalize 2 ^ k = m at *
  simp [IntKind.wrap, IntKind.bits, IntKind.signed]
  omega
set_option maxRecDepth 100000 in
theorem find_any (w : World) (n : Nat) (hn : n < 16384) : Calls Tryz.prog 135 #[.int .i64 (n : Int)] w fun e w' => e = .returned (.tuple #[.int .i64 ((n / 1024 : Nat) : Int), .int .i64 ((n % 1024 / 64 : Nat) : Int), .int .u64 ((2 ^ (n % 64) : Nat) : Int)]) ∧ Below w.heap.size w w' := by
  have d1 : Int.tdiv (n : Int) 1024 = ((n / 1024 : Nat) : Int) := by rw [Int.tdiv_eq_ediv_of_nonneg (by omega)]; simp
  have m1 : Int.tmod (n : Int) 1024 = ((n % 1024 : Nat) : Int) := by rw [Int.tmod_eq_emod_of_nonneg (by omega)]; simp
  have m2 : Int.tmod (n : Int) 64 = ((n % 64 : Nat) : Int) := by rw [Int.tmod_eq_emod_of_nonneg (by omega)]; simp
  have d2 : Int.tdiv ((n % 1024 : Nat) : Int) 64 = ((n % 1024 / 64 : Nat) : Int) := by rw [Int.tdiv_eq_ediv_of_nonneg (by omega)]; simp
  have w1 : ∀ x : Nat, x < 16384 → IntKind.i64.wrap (x : Int) = (x : Int) := fun x hx => by simp [IntKind.wrap, IntKind.bits, IntKind.signed]; omega
  have a1 := w1 (n / 1024) (by omega)
  have a2 := w1 (n % 1024) (by omega)
  have a3 := w1 (n % 1024 / 64) (by omega)
  have a4 := w1 (n % 64) (by omega)
  have P := wrap_powV (k := n % 64) (by omega)
  have mz : min (n % 64) 64 = n % 64 := by omega
  clear w1 hn
  generalize n / 1024 = x at *
  generalize n % 1024 / 64 = y at *
  generalize n % 1024 = u at *
  generalize n % 64 = z at *
  go_enter Tryz.func135, Tryz.ntmps135
  go_wp2
  go_quiet (fail)
  go_wp2
  go_ret3
  exact ⟨rfl, drewBP _ _⟩
theorem and_two (v k : Nat) : v &&& 2 ^ k = (v.testBit k).toNat * 2 ^ k := by
  apply Nat.eq_of_testBit_eq
  intro i
  rw [Nat.testBit_and, Nat.testBit_two_pow]
  by_cases e : k = i
  · subst e
    cases h : v.testBit k <;> simp [h, Nat.testBit_two_pow]
  · cases h : v.testBit k <;> simp [e, Nat.testBit_two_pow]
theorem and_pow (v k : Nat) (hv : v < 18446744073709551616) (hk : k < 64) : bits .and .u64 (v : Int) ((2 ^ k : Nat) : Int) = (((v.testBit k).toNat * 2 ^ k : Nat) : Int) := by
  rw [u64_and_nat v (2 ^ k) hv (pow_lt64V hk), and_two]
theorem and_yes (v k : Nat) (hv : v < 18446744073709551616) (hk : k < 64) (h : v.testBit k = true) : ((bits .and .u64 (v : Int) ((2 ^ k : Nat) : Int)) != 0) = true := by
  rw [and_pow v k hv hk, h]
  have := Nat.two_pow_pos k
  generalize 2 ^ k = m at *
  simp
  omega
theorem and_no (v k : Nat) (hv : v < 18446744073709551616) (hk : k < 64) (h : v.testBit k = false) : ((bits .and .u64 (v : Int) ((2 ^ k : Nat) : Int)) != 0) = false := by
  rw [and_pow v k hv hk, h]
  simp
def pgO (a b : Int) : Obj := .cells #[.int .u64 a, .int .u64 b] 183
set_option maxRecDepth 100000 in
theorem kept_any {w : World} {B : Nat} {G : Tg} {x tb : Nat} {ps : Nat → Option Nat} {s : Vs} (h : SvR w B G x tb ps s) (n : Nat) (hn : n < 16384) :
    Calls Tryz.prog 103 #[.pointer (some ⟨x, 2, none⟩), .int .i64 (n : Int)] w fun e w' => e = .returned (.int .u8 ((s.sl n : Nat) : Int)) ∧ Below w.heap.size w w' := by
  have F := Lib.hid (find_any w n hn)
  have hj : n / 1024 < 16 := by omega
  have en : n / 1024 * 1024 + n % 1024 = n := by omega
  have P := h.slt (n / 1024) hj
  have C := Lib.hid (fun W (b : Below w.heap.size w W) => (h.box.lat b).cell (2 + n / 1024))
  have hy : n % 1024 / 64 < 16 := by omega
  have hz : n % 64 < 64 := by omega
  have ez : n % 1024 % 64 = n % 64 := by omega
  rcases P with ⟨p0, pz⟩ | ⟨b, sh, p0, _, hS, pf⟩
  · have R : s.sl n = 0 := by have := pz (n % 1024) (by omega); simp only [en] at this; exact this
    rw [R]
    simp only [stA_sh _ _ _ _ hj, p0, ptN, Option.map_none] at C
    clear h pz R p0
    generalize n / 1024 = j at *
    generalize n % 1024 / 64 = y at *
    generalize n % 64 = z at *
    have k0 : ¬ (j : Int) < 0 := by omega
    have k1 : (j : Int) < 16 := by omega
    go_enter Tryz.func103, Tryz.ntmps103
    go_wp2_with (go_at_call 135; refine F.out.mono ?_; rintro e w1 ⟨rfl, h1⟩; have B1 := Lib.hid h1; have c := C.out w1 h1; clear h1)
    go_ret
    exact ⟨rfl, B1.out⟩
  · have R : s.sl n = bitS sh (n % 1024) := by have := pf (n % 1024) (by omega); simp only [en] at this; exact this
    rw [R]
    unfold bitS
    rw [ez]
    simp only [stA_sh _ _ _ _ hj, p0, ptN, Option.map_some] at C
    have D0 := Lib.hid (fun W (b : Below w.heap.size w W) => (hS.box.lat b).cell (n % 1024 / 64 * 2))
    have D1 := Lib.hid (fun W (b : Below w.heap.size w W) => (hS.box.lat b).cell (n % 1024 / 64 * 2 + 1))
    simp only [shA_at _ (n % 1024 / 64 * 2) (by omega)] at D0
    simp only [shA_at _ (n % 1024 / 64 * 2 + 1) (by omega)] at D1
    have z0 := hS.sz (n % 1024 / 64 * 2)
    have z1 := hS.sz (n % 1024 / 64 * 2 + 1)
    clear h pf R p0 hS
    generalize sh (n % 1024 / 64 * 2) = u at *
    generalize sh (n % 1024 / 64 * 2 + 1) = v at *
    generalize n / 1024 = j at *
    generalize n % 1024 / 64 = y at *
    generalize n % 64 = z at *
    clear en ez hn
    have k0 : ¬ (j : Int) < 0 := by omega
    have k1 : (j : Int) < 16 := by omega
    have k2 : ¬ (y : Int) < 0 := by omega
    have k3 : (y : Int) < 16 := by omega
    cases t0 : u.testBit z with
    | true =>
      have a0 := and_yes u z z0 hz t0
      clear hz
      simp only [if_true]
      generalize 2 ^ z = m at *
      go_enter Tryz.func103, Tryz.ntmps103
      go_wp2_with (go_at_call 135; refine F.out.mono ?_; rintro e w1 ⟨rfl, h1⟩; have B1 := Lib.hid h1; have c := C.out w1 h1; have d0 := D0.out w1 h1; have d1 := D1.out w1 h1; clear h1)
      go_ret
      exact ⟨rfl, B1.out.alloc B1.out.size _⟩
    | false =>
      have a0 := and_no u z z0 hz t0
      cases t1 : v.testBit z with
      | true =>
        have a1 := and_yes v z z1 hz t1
        clear hz
        simp only [if_true, if_false, Bool.false_eq_true]
        generalize 2 ^ z = m at *
        go_enter Tryz.func103, Tryz.ntmps103
        go_wp2_with (go_at_call 135; refine F.out.mono ?_; rintro e w1 ⟨rfl, h1⟩; have B1 := Lib.hid h1; have c := C.out w1 h1; have d0 := D0.out w1 h1; have d1 := D1.out w1 h1; clear h1)
        go_ret
        exact ⟨rfl, B1.out.alloc B1.out.size _⟩
      | false =>
        have a1 := and_no v z z1 hz t1
        clear hz
        simp only [if_true, if_false, Bool.false_eq_true]
        generalize 2 ^ z = m at *
        go_enter Tryz.func103, Tryz.ntmps103
        go_wp2_with (go_at_call 135; refine F.out.mono ?_; rintro e w1 ⟨rfl, h1⟩; have B1 := Lib.hid h1; have c := C.out w1 h1; have d0 := D0.out w1 h1; have d1 := D1.out w1 h1; clear h1)
        go_ret
        exact ⟨rfl, B1.out.alloc B1.out.size _⟩
end Go.Proofs.YtpfjnnkjoabgbaaGreatDoor

namespace Go.Proofs.YtpfjnnkjoabgbaaGreatDoor
open Go.RowKit
set_option linter.unusedVariables false
set_option linter.unusedSimpArgs false
theorem gx_refl (r : Option Nat) (w : World) : w.grownBy w r := ⟨rfl, rfl, rfl, Nat.le_refl _, fun _ _ _ => rfl⟩
theorem gx_trans {r : Option Nat} {a b c : World} (h : a.grownBy b r) (k : b.grownBy c r) : a.grownBy c r :=
  ⟨k.os.trans h.os, k.tape.trans h.tape, k.output.trans h.output, Nat.le_trans h.size k.size, fun i hi hr => (k.block i (Nat.lt_of_lt_of_le hi h.size) hr).trans (h.block i hi hr)⟩
theorem gx_new {r : Option Nat} {q : Nat} {a b : World} (h : a.grownBy b r) (hq : a.heap.size ≤ q) (o : Nat) (v : Value) : a.grownBy (b.setCell ⟨q, o, none⟩ v) r := by
  have g := setCell_gr b q o v
  exact ⟨g.os.trans h.os, g.tape.trans h.tape, g.output.trans h.output, Nat.le_trans h.size g.size, fun i hi hr => (g.block i (Nat.lt_of_lt_of_le hi h.size) (by intro e; injection e with e; omega)).trans (h.block i hi hr)⟩
theorem gx_at {p : Nat} {a b : World} (h : a.grownBy b (some p)) (o : Nat) (v : Value) : a.grownBy (b.setCell ⟨p, o, none⟩ v) (some p) := gx_trans h (setCell_gr b p o v)
theorem gx_bel {r : Option Nat} {a b c : World} (h : a.grownBy b r) (k : Below b.heap.size b c) : a.grownBy c r := gx_trans h (gr_below k r)
theorem gx_alloc {r : Option Nat} {a b : World} (h : a.grownBy b r) (o : Obj) : a.grownBy (b.alloc o) r := gx_bel h (allocBP b o)
theorem gx_drew {r : Option Nat} {a b : World} (h : a.grownBy b r) : a.grownBy b.drew r := ⟨h.os, h.tape, h.output, h.size, h.block⟩
theorem gx_out {B p : Nat} {a b : World} (h : a.grownBy b (some p)) (hB : B ≤ p) (hs : B ≤ a.heap.size) : Below B a b := (Below.refl B a).grown h hs (fun k e => by injection e with e; omega)
/-- What has been taken so far. -/
def tkE (n m : Nat) (st : List Nat) (i : Nat) : Nat := if i < n ∧ n - 1 - i < m then st.getD (n - 1 - i) 0 else 0
def tkV (n m : Nat) (st : List Nat) : Array Value := #[.int .u8 ((tkE n m st 0 : Nat) : Int), .int .u8 ((tkE n m st 1 : Nat) : Int), .int .u8 ((tkE n m st 2 : Nat) : Int)]
theorem tkV_next {n m : Nat} {st : List Nat} (hn : n ≤ 3) (hm : m < n) : (tkV n m st).set! (n - 1 - m) (.int .u8 ((st.getD m 0 : Nat) : Int)) = tkV n (m + 1) st := by
  have h3 : n = 1 ∨ n = 2 ∨ n = 3 := by omega
  rcases h3 with rfl | rfl | rfl
  · obtain rfl : m = 0 := by omega
    simp [tkV, tkE]
  · have : m = 0 ∨ m = 1 := by omega
    rcases this with rfl | rfl <;> simp [tkV, tkE]
  · have : m = 0 ∨ m = 1 ∨ m = 2 := by omega
    rcases this with rfl | rfl | rfl <;> simp [tkV, tkE]
def aggS (l : List Nat) : Value := .agg (l.map (fun x => Value.int .u8 ((x : Nat) : Int))).toArray
theorem tkV_end {n : Nat} {st : List Nat} (hn : n ≤ 3) : Value.agg (tkV n n st) = aggS (vTak n st) := by
  have h3 : n = 0 ∨ n = 1 ∨ n = 2 ∨ n = 3 := by omega
  rcases h3 with rfl | rfl | rfl | rfl <;> simp [tkV, tkE, aggS, vTak]
theorem drop_cons {st : List Nat} {k : Nat} (h : k < st.length) : st.drop k = st.getD k 0 :: st.drop (k + 1) := by
  rw [List.drop_eq_getElem_cons h]
  simp [List.getD, h]
theorem stA_set0 (tb tb' h : Nat) (ps : Nat → Option Nat) : (stA tb h ps).set! 0 (.pointer (some ⟨tb', 0, none⟩)) = stA tb' h ps := by simp [stA]
theorem stA_set1 (tb h h' : Nat) (ps : Nat → Option Nat) : (stA tb h ps).set! 1 (.int .i64 (h' : Int)) = stA tb h' ps := by simp [stA]
theorem BkP.set2 {w : World} {b : Nat} {cs : Array Value} {t : TypeId} (h : BkP w b cs t) (k : Nat) (v : Value) (hk : k < cs.size) : BkP (w.setCell ⟨b, k, none⟩ v) b (cs.set! k v) t := by
  have := h.set k v hk
  rw [Array.set!_eq_setIfInBounds]
  simpa [Array.setIfInBounds, hk] using this
theorem boxV3 {w : World} {x : Nat} {a b c : Value} {t : TypeId} (k : BkP w x #[a, b, c] t) : w.cell? ⟨x, 0, none⟩ = some a ∧ w.cell? ⟨x, 1, none⟩ = some b ∧ w.cell? ⟨x, 2, none⟩ = some c := by
  refine ⟨?_, ?_, ?_⟩ <;> simp [k.cell]
structure TakE (w : World) (B : Nat) (G : Tg) (x : Nat) (ps : Nat → Option Nat) (s : Vs) (n : Nat) (e : Ending) (w' : World) : Prop where
  ret : e = .returned (aggS (vTak n s.st))
  sta : ∃ tb, SvR w' B G x tb ps ⟨s.st.drop n, s.sl⟩
  gro : w.grownBy w' (some x)
set_option maxRecDepth 100000 in
set_option maxHeartbeats 1000000 in
theorem takeV_any {w : World} {B : Nat} {G : Tg} {x tb : Nat} {ps : Nat → Option Nat} {s : Vs} (hT : Tri w B G) (h : SvR w B G x tb ps s) (n : Nat) (hn : n ≤ 3) (hl : n ≤ s.st.length) (hz : s.st.length ≤ 262144) :
    Calls Tryz.prog 100 #[.pointer (some ⟨x, 0, none⟩), .int .i64 (n : Int)] w fun e w' => TakE w B G x ps s n e w' := by
  have HX := Lib.hid (p := x < w.heap.size) h.box.lt
  have HS := Lib.hid h
  have HT := Lib.hid hT
  have b0 := h.box
  clear h hT
  go_enter Tryz.func100, Tryz.ntmps100
  go_wp2
  go_loopw [8] (fun t wr => ∃ (k tbk : Nat), k ≤ n ∧ t = .int .i64 (k : Int) ∧ G (s.st.drop k) = some tbk ∧ BkP wr x (stA tbk s.st.length ps) 101 ∧ BkP wr (w.heap.size + 1) (tkV n k s.st) 141 ∧ BkP wr w.heap.size #[.int .u8 0, .int .u8 0, .int .u8 0] 141 ∧ w.grownBy wr (some x)) (fun t _ => n - (intOf t).toNat)
  case atStart =>
    refine ⟨0, tb, by omega, rfl, HS.out.top, ?_, ?_, ?_, ?_⟩
    · exact ((b0.lat (allocBP _ _)).lat (allocBP _ _))
    · have := heapN (w.alloc (.cells #[.int .u8 0, .int .u8 0, .int .u8 0] 141)) (.cells #[.int .u8 0, .int .u8 0, .int .u8 0] 141)
      have e : tkV n 0 s.st = #[.int .u8 0, .int .u8 0, .int .u8 0] := by simp [tkV, tkE]
      rw [e]
      simpa [BkP] using this
    · exact BkP.lat (heapN w (.cells #[.int .u8 0, .int .u8 0, .int .u8 0] 141)) (allocBP _ _)
    · exact gx_alloc (gx_alloc (gx_refl _ _) _) _
  case round =>
    rename World => wr
    obtain ⟨k, tbk, hk, rfl, hg, hX, hK, hR, hgr⟩ := hrel
    clear b0
    by_cases hlt : k < n
    · have kc : (k : Int) < (n : Int) := by omega
      have ks : IntKind.i64.wrap ((k : Int) + 1) = (k : Int) + 1 := by simp [IntKind.wrap, IntKind.bits, IntKind.signed]; omega
      obtain ⟨i, hi⟩ : ∃ i : Nat, n = k + 1 + i := ⟨n - k - 1, by omega⟩
      have n1 : IntKind.i64.wrap ((n : Int) - 1) = (n : Int) - 1 := by simp [IntKind.wrap, IntKind.bits, IntKind.signed]; omega
      have n2 : IntKind.i64.wrap ((n : Int) - 1 - (k : Int)) = (i : Int) := by simp [IntKind.wrap, IntKind.bits, IntKind.signed]; omega
      have i3 : (i : Int) < 3 := by omega
      have dc := drop_cons (st := s.st) (k := k) (by omega)
      rw [dc] at hg
      have ei : n - 1 - k = i := by omega
      have KN := Lib.hid (tkV_next (st := s.st) hn hlt)
      rw [ei] at KN
      generalize hy : s.st.getD k 0 = y at *
      clear hy dc
      obtain ⟨c, hc⟩ := HT.out.pre _ _ _ hg
      have hb : BkP wr tbk (cellA G (y :: s.st.drop (k + 1))) 123 := (HT.out.box _ _ hg).2.grown hgr (by intro q; injection q with q; exact bk_ne (HT.out.box _ _ hg).2 HS.out.box (by decide) q)
      have NE1 : tbk ≠ w.heap.size + 1 := bk_ne hb hK (by decide)
      have NE2 : x ≠ w.heap.size + 1 := bk_ne hX hK (by decide)
      have c0 := hX.cell 0
      have f0 := hX.frozen 0
      rw [stA_top] at c0
      have d0 := hb.cell 0
      have d1 := hb.cell 1
      simp [cellA, blwN, hc, ptN] at d0 d1
      have fK := hK.frozen i
      obtain ⟨vK, cK⟩ : ∃ v, wr.cell? ⟨w.heap.size + 1, i, none⟩ = some v := by
        rw [hK.cell i]
        exact ⟨_, Array.getElem?_eq_getElem (by simp [tkV]; omega)⟩
      have K2 := Lib.hid (hK.set2 i (.int .u8 (y : Int)) (by simp [tkV]; omega))
      have X2 := Lib.hid (hX.other (w.heap.size + 1) i (.int .u8 (y : Int)) (Ne.symm NE2))
      have B2 := Lib.hid (hb.other (w.heap.size + 1) i (.int .u8 (y : Int)) (Ne.symm NE1))
      have R2 := Lib.hid (hR.other (w.heap.size + 1) i (.int .u8 (y : Int)) (by omega))
      have G2 := Lib.hid (gx_new hgr (q := w.heap.size + 1) (by omega) i (.int .u8 (y : Int)))
      have c2 := X2.out.cell 0
      have f2 := X2.out.frozen 0
      rw [stA_top] at c2
      have g0 := B2.out.cell 1
      simp [cellA, blwN, hc, ptN] at g0
      have HI := Lib.hid hi
      clear hb hX hK hR hgr hg hi ei
      go_wp2
      go_roundw
      case rel =>
        refine ⟨k + 1, c, by omega, by go_num, hc, ?_, ?_, ?_, ?_⟩
        · have := X2.out.set2 0 (.pointer (some ⟨c, 0, none⟩)) (by rw [stA_size]; omega)
          rw [stA_set0] at this
          exact this
        · have := K2.out.other x 0 (.pointer (some ⟨c, 0, none⟩)) NE2
          rw [KN.out] at this
          exact this
        · exact R2.out.other x 0 (.pointer (some ⟨c, 0, none⟩)) (by have := HX.out; omega)
        · exact gx_at G2.out 0 _
      case measure => simp [intOf]; omega
    · obtain rfl : k = n := by omega
      have NE1 := Lib.hid (p := x ≠ w.heap.size) (by have := HX.out; omega)
      have NE2 := Lib.hid (p := x ≠ w.heap.size + 1) (by have := HX.out; omega)
      have c1 := hX.cell 1
      have f1 := hX.frozen 1
      rw [stA_ht] at c1
      have w1 : IntKind.i64.wrap ((s.st.length : Int) - (k : Int)) = ((s.st.length - k : Nat) : Int) := by simp [IntKind.wrap, IntKind.bits, IntKind.signed]; omega
      have X2 := Lib.hid (hX.set2 1 (.int .i64 ((s.st.length - k : Nat) : Int)) (by rw [stA_size]; omega))
      have K2 := Lib.hid (hK.other x 1 (.int .i64 ((s.st.length - k : Nat) : Int)) NE2.out)
      have R2 := Lib.hid (hR.other x 1 (.int .i64 ((s.st.length - k : Nat) : Int)) NE1.out)
      have G2 := Lib.hid (gx_at hgr 1 (.int .i64 ((s.st.length - k : Nat) : Int)))
      have VE := Lib.hid (tkV_end (st := s.st) hn)
      have HG := Lib.hid hg
      obtain ⟨k0, k1, k2⟩ := boxV3 K2.out
      obtain ⟨r0, r1, r2⟩ := boxV3 R2.out
      have g0 := R2.out.frozen 0
      have g1 := R2.out.frozen 1
      have g2 := R2.out.frozen 2
      clear hX hK hR hgr hg
      obtain ⟨z, hz2⟩ : ∃ z, s.st.length - k = z := ⟨_, rfl⟩
      have HZ := Lib.hid hz2
      rw [hz2] at w1 X2 K2 R2 G2 k0 k1 k2 r0 r1 r2 g0 g1 g2
      clear hz2
      go_wp2
      have G3 := gx_new (gx_new (gx_new G2.out (q := w.heap.size) (Nat.le_refl _) 0 (.int .u8 ((tkE k k s.st 0 : Nat) : Int))) (q := w.heap.size) (Nat.le_refl _) 1 (.int .u8 ((tkE k k s.st 1 : Nat) : Int))) (q := w.heap.size) (Nat.le_refl _) 2 (.int .u8 ((tkE k k s.st 2 : Nat) : Int))
      have X3 := ((X2.out.other w.heap.size 0 (.int .u8 ((tkE k k s.st 0 : Nat) : Int)) (Ne.symm NE1.out)).other w.heap.size 1 (.int .u8 ((tkE k k s.st 1 : Nat) : Int)) (Ne.symm NE1.out)).other w.heap.size 2 (.int .u8 ((tkE k k s.st 2 : Nat) : Int)) (Ne.symm NE1.out)
      have R3 := ((R2.out.set2 0 (.int .u8 ((tkE k k s.st 0 : Nat) : Int)) (by simp)).set2 1 (.int .u8 ((tkE k k s.st 1 : Nat) : Int)) (by simp)).set2 2 (.int .u8 ((tkE k k s.st 2 : Nat) : Int)) (by simp)
      have R4 := boxV3 (by simpa using R3)
      obtain ⟨q0, q1, q2⟩ := R4
      have ZL := HZ.out
      refine bodyPost_ret (v := .agg (tkV k k s.st)) ?r rfl ?s
      case r => simp [results, Tryz.results100, go_sem, q0, q1, q2, tkV]
      case s =>
        refine ⟨by rw [VE.out], ⟨tbk, ⟨HG.out, ?_, ?_, HS.out.low⟩⟩, G3⟩
        · rw [stA_set1] at X3
          simpa [ZL] using X3
        · exact HS.out.slt.other G3 HS.out.box (by decide)
end Go.Proofs.YtpfjnnkjoabgbaaGreatDoor

namespace Go.Proofs.YtpfjnnkjoabgbaaGreatDoor
open Go.RowKit
set_option linter.unusedVariables false
set_option linter.unusedSimpArgs false
def zcs (l : List Int) : List Value := l.map (fun n => .int .i64 n)
theorem zcs_len (l : List Int) : (zcs l).length = l.length := by simp [zcs]
theorem zcs_append (a b : List Int) : zcs (a ++ b) = zcs a ++ zcs b := by simp [zcs]
theorem zcs_one (l : List Int) : ∀ u ∈ zcs l, u.oneCell' = true := by
  intro u hu
  simp only [zcs, List.mem_map] at hu
  obtain ⟨n, _, rfl⟩ := hu
  rfl
theorem infoZ : (Tryz.prog.info? 3).map (fun i => (i.zero, i.size, i.bytes)) = some (some (.int .i64 0), 1, 8) := by kernel_rfl
/-- A row of ints that lies in a block of its own. -/
def OwZ (w : World) (B : Nat) (v : Value) (l : List Int) : Prop := w.ownsRow B 3 1 v l.length (zcs l)
theorem OwZ.nil (w : World) (B : Nat) : OwZ w B (.slice none 0 0) [] := World.ownsRow_nil _ _ _ _
theorem OwZ.made (w : World) (B cap : Nat) (cur : Array Value) (hb : B ≤ w.heap.size) (hm : cap ≤ maxLen) (hs : cur.size = cap) : OwZ (w.alloc (.cells cur 3)) B (.slice (some ⟨w.heap.size, 0, none⟩) 0 cap) [] := World.ownsRow_made w cur cap hb hm (by omega)
theorem OwZ.form {w : World} {B : Nat} {v : Value} {l : List Int} (h : OwZ w B v l) : ∃ a cap, v = .slice a l.length cap ∧ l.length ≤ cap ∧ (l ≠ [] → ∃ g, a = some ⟨g, 0, none⟩ ∧ B ≤ g ∧ g < w.heap.size) := by
  rcases h.2 with ⟨rfl, h0⟩ | ⟨g, cap, cur, rfl, e2, e3, e4, _⟩
  · have : l = [] := List.length_eq_zero_iff.1 h0
    subst this
    exact ⟨none, 0, rfl, Nat.le_refl _, fun q => absurd rfl q⟩
  · exact ⟨_, cap, rfl, e4, fun _ => ⟨g, rfl, e2, (Array.getElem?_eq_some_iff.1 e3).1⟩⟩
theorem OwZ.cell {w : World} {B g cap n : Nat} {l : List Int} (h : OwZ w B (.slice (some ⟨g, 0, none⟩) n cap) l) {i : Nat} (hi : i < l.length) : w.cell? ⟨g, i, none⟩ = some (.int .i64 (l.getD i 0)) := by
  rcases h.2 with ⟨e, _⟩ | ⟨g', cap', cur, e, e2, e3, e4, e5, e6, e7⟩
  · injection e with e; cases e
  · injection e with e _ _
    injection e with e
    injection e with e
    subst e
    have q : (zcs l)[i]? = some (.int .i64 (l.getD i 0)) := by simp [zcs, List.getD, hi]
    rw [← e7, List.getElem?_take_of_lt (by omega)] at q
    simp only [World.cell?, e3]
    simpa using q
theorem OwZ.frozen {w : World} {B g cap n : Nat} {l : List Int} (h : OwZ w B (.slice (some ⟨g, 0, none⟩) n cap) l) (i : Nat) : w.frozen? ⟨g, i, none⟩ = false := by
  rcases h.2 with ⟨e, _⟩ | ⟨g', cap', cur, e, e2, e3, e4, e5, e6, e7⟩
  · injection e with e; cases e
  · injection e with e _ _
    injection e with e
    injection e with e
    subst e
    simp [World.frozen?, e3]
/-- Cut to its first k. -/
theorem OwZ.cut {w : World} {B g cap n : Nat} {l : List Int} (h : OwZ w B (.slice (some ⟨g, 0, none⟩) n cap) l) {k : Nat} (hk : k ≤ l.length) : OwZ w B (.slice (some ⟨g, 0, none⟩) k cap) (l.take k) := by
  rcases h.2 with ⟨e, _⟩ | ⟨g', cap', cur, e, e2, e3, e4, e5, e6, e7⟩
  · injection e with e; cases e
  · injection e with e en ec
    injection e with e
    injection e with e
    subst e ec
    have hl : (l.take k).length = k := by simp; omega
    refine ⟨by rw [zcs_len]; omega, .inr ⟨g, cap, cur, by rw [hl], e2, e3, by omega, e5, e6, ?_⟩⟩
    rw [hl]
    have : zcs (l.take k) = (zcs l).take k := by simp [zcs]
    rw [this, ← e7, List.take_take]
    congr 1
    omega
theorem OwZ.later {w w' : World} {B C : Nat} {v : Value} {l : List Int} (h : OwZ w B v l) (b : Below w.heap.size w w') (hC : C ≤ B) : OwZ w' C v l := by
  refine ⟨h.1, ?_⟩
  rcases h.2 with h | ⟨g, cap, cur, rfl, e2, e3, e4⟩
  · exact .inl h
  · exact .inr ⟨g, cap, cur, rfl, by omega, (b.block g (Array.getElem?_eq_some_iff.1 e3).1).trans e3, e4⟩
theorem OwZ.lat {w w' : World} {B : Nat} {v : Value} {l : List Int} (h : OwZ w B v l) (b : Below w.heap.size w w') : OwZ w' B v l := h.later b (Nat.le_refl _)
theorem OwZ.grown {w w' : World} {B : Nat} {v : Value} {l : List Int} {r : Option Nat} (h : OwZ w B v l) (g : w.grownBy w' r) (hr : v.ownBlock = none ∨ v.ownBlock ≠ r) : OwZ w' B v l := World.ownsRow.kept h g hr
theorem OwZ.blk {w w' : World} {B : Nat} {v : Value} {l : List Int} (h : OwZ w B v l) (hb : ∀ g, v.ownBlock = some g → w'.heap[g]? = w.heap[g]?) : OwZ w' B v l := by
  refine ⟨h.1, ?_⟩
  rcases h.2 with hn | ⟨g, cap, cur, rfl, hB, hg, rest⟩
  · exact .inl hn
  · exact .inr ⟨g, cap, cur, rfl, hB, by rw [hb g rfl]; exact hg, rest⟩
theorem OwZ.own {w : World} {B : Nat} {v : Value} {l : List Int} (h : OwZ w B v l) : ∀ g, v.ownBlock = some g → B ≤ g ∧ g < w.heap.size := World.ownsRow.lt h
/-- 'l = append(l, more...)'. -/
theorem wp_ints {ops : Array Oper} {rest : List Oper} {o : Oper} {a : Act} {Q : Exit → Act → World → Prop} (w : World) (hgd : o.guard = none) (s y : Operand)
    (ho : o.op = .call { callee := .builtin .append, args := #[s, y], argTypes := #[23, 23] }) (B C : Nat) (v u : Value) (l k : List Int) (hs : a.eval s = v) (hy : a.eval y = u)
    (hv : OwZ w B v l) (hu : OwZ w C u k) (hl : l.length + k.length ≤ 4398046511000) (hb : B ≤ w.heap.size)
    (h : ∀ v' w', OwZ w' B v' (l ++ k) → w.grownBy w' v.ownBlock → wpList Tryz.prog ops Q rest (a.put o.dst v') w') : wpList Tryz.prog ops Q (o :: rest) a w := by
  obtain ⟨i0, hi, hz0, hz1, hz2⟩ := info_parts infoZ
  have hlen : k.length * 1 = (zcs k).length := by rw [zcs_len]; omega
  rcases hu.2 with ⟨rfl, h0⟩ | ⟨g, cap, cur, rfl, e2, e3, e4, e5, e6, e7⟩
  · have : k = [] := List.length_eq_zero_iff.1 h0
    subst this
    exact wpList_append_own_none hgd s y 23 ho B 3 i0 1 Tryz.underlying23 hi v l.length (zcs l) hs hv hy (h v w (by rw [List.append_nil]; exact hv) ⟨rfl, rfl, rfl, Nat.le_refl _, fun _ _ _ => rfl⟩)
  · refine wpList_append_own _ hgd s y 23 ho B 3 i0 (.int .i64 0) 1 8 Tryz.underlying23 hi hz0 hz1 hz2 rfl (by decide) v _ _ hs hv ⟨g, 0, none⟩ k.length cap (zcs k) hy hlen.symm ?_ (zcs_one k) (by unfold maxLen; omega) (by omega) hb ?_
    · intro j u' hj
      have hj' : j < k.length * 1 := by rw [hlen]; exact (List.getElem?_eq_some_iff.1 hj).1
      rw [Addr.add_lit, Nat.zero_add]
      simp only [World.cell?, e3]
      rw [← e7, List.getElem?_take_of_lt hj'] at hj
      simpa using hj
    · intro v' w' h1 h2 _
      refine h v' w' ?_ h2
      unfold OwZ
      rw [zcs_append, List.length_append]
      exact h1
theorem OwZ.lit (w : World) (B : Nat) (x : Int) (hb : B ≤ w.heap.size) : OwZ (w.alloc (.cells #[.int .i64 x] 3)) B (.slice (some ⟨w.heap.size, 0, none⟩) 1 1) [x] :=
  ⟨rfl, .inr ⟨w.heap.size, 1, #[.int .i64 x], rfl, hb, heapN _ _, Nat.le_refl _, by unfold maxLen; omega, rfl, rfl⟩⟩
theorem own_blkG {w w' : World} {B : Nat} {t : TypeId} {k : Nat} {v : Value} {n : Nat} {xs : List Value} (h : w.ownsRow B t k v n xs) (hb : ∀ g, v.ownBlock = some g → w'.heap[g]? = w.heap[g]?) : w'.ownsRow B t k v n xs := by
  refine ⟨h.1, ?_⟩
  rcases h.2 with hn | ⟨g, cap, cur, rfl, hB, hg, rest⟩
  · exact .inl hn
  · exact .inr ⟨g, cap, cur, rfl, hB, by rw [hb g rfl]; exact hg, rest⟩
/-- Rows and boxes of unlike types lie in unlike blocks. -/
theorem own_neB {w : World} {B : Nat} {t u : TypeId} {k : Nat} {v : Value} {n : Nat} {xs : List Value} (h : w.ownsRow B t k v n xs) {b : Nat} {cs : Array Value} (hb : BkP w b cs u) (ne : t ≠ u) : v.ownBlock ≠ some b := by
  intro e
  rcases h.2 with ⟨rfl, _⟩ | ⟨g, cap, cur, rfl, hB, hg, rest⟩
  · cases e
  · simp only [Value.ownBlock, Option.some.injEq] at e
    subst e
    exact bk_ne (W := w) hg hb ne rfl
theorem own_neO {w : World} {B C : Nat} {t u : TypeId} {k j : Nat} {v v' : Value} {n m : Nat} {xs ys : List Value} (h : w.ownsRow B t k v n xs) (h' : w.ownsRow C u j v' m ys) (ne : t ≠ u) : v.ownBlock = none ∨ v.ownBlock ≠ v'.ownBlock := by
  rcases h'.2 with ⟨rfl, _⟩ | ⟨g, cap, cur, rfl, hB, hg, rest⟩
  · cases e : v.ownBlock with
    | none => exact .inl rfl
    | some x => exact .inr (by simp [Value.ownBlock])
  · exact .inr (own_neB h (b := g) (cs := cur) hg ne)
end Go.Proofs.YtpfjnnkjoabgbaaGreatDoor

namespace Go.Proofs.YtpfjnnkjoabgbaaGreatDoor
open Go.RowKit
set_option linter.unusedVariables false
set_option linter.unusedSimpArgs false
def flatV (n : Nat) (V : Nat → List Value) : List Value := (List.range n).flatMap V
theorem flatV_len {k : Nat} (V : Nat → List Value) : ∀ n, (∀ i, i < n → (V i).length = k) → (flatV n V).length = n * k
  | 0, _ => by simp [flatV]
  | n + 1, h => by
    have ih := flatV_len V n (fun i hi => h i (by omega))
    unfold flatV at ih ⊢
    rw [List.range_succ, List.flatMap_append, List.length_append, ih]
    simp [h n (by omega), Nat.add_mul]
theorem flatV_at {k : Nat} (hk : 0 < k) (V : Nat → List Value) : ∀ n, (∀ i, i < n → (V i).length = k) → ∀ i, i < n → ∀ j, j < k → (flatV n V)[i * k + j]? = (V i)[j]?
  | 0, _, i, hi, _, _ => by omega
  | n + 1, h, i, hi, j, hj => by
    have ih := flatV_at hk V n (fun i hi => h i (by omega))
    have len := flatV_len (k := k) V n (fun i hi => h i (by omega))
    unfold flatV at ih len ⊢
    rw [List.range_succ, List.flatMap_append]
    by_cases e : i = n
    · subst e
      rw [List.getElem?_append_right (by omega), len, show i * k + j - i * k = j by omega]
      simp
    · have lt : i < n := by omega
      have b : i * k + j < n * k := by
        have : (i + 1) * k ≤ n * k := Nat.mul_le_mul_right k lt
        rw [Nat.add_mul, Nat.one_mul] at this
        omega
      rw [List.getElem?_append_left (by rw [len]; exact b)]
      exact ih i lt j hj
/-- The cells of a row, for an append. -/
theorem row_news {w : World} {x o n k : Nat} {V : Nat → List Value} (hk : 0 < k) (hV : ∀ i, i < n → (V i).length = k) (h : ∀ i, i < n → ∀ j, j < k → w.cell? ⟨x, o + i * k + j, none⟩ = some ((V i).getD j default)) : ∀ j u, (flatV n V)[j]? = some u → w.cell? ((⟨x, o, none⟩ : Addr).add j) = some u := by
  intro j u hj
  have lt : j < n * k := by have := (List.getElem?_eq_some_iff.1 hj).1; rw [flatV_len V n hV] at this; exact this
  have e : j = (j / k) * k + j % k := by have := Nat.div_add_mod j k; rw [Nat.mul_comm] at this; omega
  have i1 : j / k < n := (Nat.div_lt_iff_lt_mul hk).2 lt
  have i2 : j % k < k := Nat.mod_lt _ hk
  rw [e, flatV_at hk V n hV _ i1 _ i2] at hj
  rw [Addr.add_lit, e, ← Nat.add_assoc, h _ i1 _ i2]
  have : (V (j / k)).getD (j % k) default = u := by simp [List.getD, hj]
  rw [this]
/-- What an own row holds, cell by cell. -/
theorem own_row {w : World} {B g cap n k : Nat} {t : TypeId} {V : Nat → List Value} (hk : 0 < k) (hV : ∀ i, i < n → (V i).length = k) (h : w.ownsRow B t k (.slice (some ⟨g, 0, none⟩) n cap) n (flatV n V)) : (∃ cur, BkP w g cur t ∧ cur.size = cap * k) ∧ B ≤ g ∧ g < w.heap.size ∧ n ≤ cap ∧ cap ≤ maxLen ∧ ∀ i, i < n → ∀ j, j < k → w.cell? ⟨g, 0 + i * k + j, none⟩ = some ((V i).getD j default) := by
  rcases h.2 with ⟨e, _⟩ | ⟨g', cap', cur, e, e2, e3, e4, e5, e6, e7⟩
  · injection e with e; cases e
  · injection e with e en ec
    injection e with e
    injection e with e
    subst e ec
    refine ⟨⟨cur, e3, e6⟩, e2, (Array.getElem?_eq_some_iff.1 e3).1, e4, e5, fun i hi j hj => ?_⟩
    have b : i * k + j < n * k := by
      have : (i + 1) * k ≤ n * k := Nat.mul_le_mul_right k hi
      rw [Nat.add_mul, Nat.one_mul] at this
      omega
    have q := flatV_at hk V n hV i hi j hj
    rw [← e7, List.getElem?_take_of_lt b] at q
    rw [Nat.zero_add]
    have l : j < (V i).length := by rw [hV i hi]; exact hj
    simp only [World.cell?, e3]
    rw [List.getElem?_eq_getElem l] at q
    have g2 : (V i).getD j default = (V i)[j] := by simp [List.getD, l]
    rw [g2]
    simpa using q
def sgV (days : List Sg) (i : Nat) : List Value := (days.getD i default).cs
theorem sgV_len (days : List Sg) (i : Nat) : (sgV days i).length = 2 := rfl
def inW (c : List In) (i : Nat) : List Value := icell (c.getD i default)
theorem inW_len (c : List In) (i : Nat) : (inW c i).length = 3 := rfl
theorem flatV_one (V : Nat → List Value) {k : Nat} (n : Nat) (hV : ∀ i, i < n → ∀ u ∈ V i, u.oneCell' = true) : ∀ u ∈ flatV n V, u.oneCell' = true := by
  intro u hu
  unfold flatV at hu
  rw [List.mem_flatMap] at hu
  obtain ⟨i, hi, hu⟩ := hu
  exact hV i (List.mem_range.1 hi) u hu
theorem sgV_one (days : List Sg) (i : Nat) : ∀ u ∈ sgV days i, u.oneCell' = true := by
  intro u hu
  simp [sgV, Sg.cs] at hu
  rcases hu with rfl | rfl <;> rfl
theorem inW_one (c : List In) (i : Nat) : ∀ u ∈ inW c i, u.oneCell' = true := by
  intro u hu
  simp [inW, icell] at hu
  rcases hu with rfl | rfl | rfl <;> rfl
theorem infoSg : (Tryz.prog.info? 71).map (fun i => (i.zero, i.size, i.bytes)) = some (some (.agg #[.int .i64 0, .slice none 0 0]), 2, 32) := by kernel_rfl
theorem infoIn : (Tryz.prog.info? 68).map (fun i => (i.zero, i.size, i.bytes)) = some (some (.agg #[.int .i64 0, .int .i64 0, .int .i64 0]), 3, 24) := by kernel_rfl
/-- 'append([]api.Segment{}, days...)'. -/
theorem wp_segs {ops : Array Oper} {rest : List Oper} {o : Oper} {a : Act} {Q : Exit → Act → World → Prop} (w : World) (hgd : o.guard = none) (s y : Operand)
    (ho : o.op = .call { callee := .builtin .append, args := #[s, y], argTypes := #[24, 24] }) (B x ox N dc : Nat) (days : List Sg) (H : Nat) (hH : w.heap.size = H) (hs : a.eval s = .slice (some ⟨H, 0, none⟩) 0 0) (hy : a.eval y = .slice (some ⟨x, ox, none⟩) N dc)
    (hN : days.length = N) (h0 : 0 < N) (hN2 : N ≤ 4398046510976) (hc : ∀ V, Below w.heap.size w V → ∀ i, i < N → ∀ j, j < 2 → V.cell? ⟨x, ox + i * 2 + j, none⟩ = some ((sgV days i).getD j default)) (hb : B ≤ w.heap.size)
    (h : ∀ g cap w', w'.ownsRow B 71 2 (.slice (some ⟨g, 0, none⟩) N cap) N (flatV N (sgV days)) → (w.alloc (.cells #[] 71)).grownBy w' (some w.heap.size) → wpList Tryz.prog ops Q rest (a.put o.dst (.slice (some ⟨g, 0, none⟩) N cap)) w') :
    wpList Tryz.prog ops Q (o :: rest) a (w.alloc (.cells #[] 71)) := by
  subst hH
  obtain ⟨i0, hi, hz0, hz1, hz2⟩ := info_parts infoSg
  refine wpList_append_lies _ hgd s y 24 ho B 71 i0 (.agg #[.int .i64 0, .slice none 0 0]) 2 32 Tryz.underlying24 hi hz0 hz1 hz2 rfl (by decide) _ 0 [] hs (World.ownsRow_made w #[] 0 hb (by unfold maxLen; omega) rfl) ⟨x, ox, none⟩ N dc (flatV N (sgV days)) hy (flatV_len _ _ (fun i _ => sgV_len days i)) (row_news (by omega) (fun i _ => sgV_len days i) (hc _ (allocBP _ _))) (flatV_one (k := 2) _ _ (fun i _ => sgV_one days i)) h0 (by unfold maxLen; omega) (by omega) (by simp; omega) (w.heap.size + 1) (by simp) ?_
  intro g cap w' h1 h2 _ _
  rw [Nat.zero_add, List.nil_append] at h1
  rw [Nat.zero_add]
  exact h g cap w' h1 h2
/-- 'append(own, code...)', where the order is drawn. -/
theorem step_code {ops : Array Oper} {o : Oper} {a : Act} {K : Act → World → Prop} {Q : Exit → Act → World → Prop} {E : Prop} (w : World) (hgd : o.guard = none) (s y : Operand)
    (ho : o.op = .call { callee := .builtin .append, args := #[s, y], argTypes := #[69, 69] }) (B : Nat) (v : Value) (n0 : Nat) (xs : List Value) (x ox m c : Nat) (code : List In) (hs : a.eval s = v) (hy : a.eval y = .slice (some ⟨x, ox, none⟩) m c)
    (hown : w.ownsRow B 68 3 v n0 xs) (h0 : 0 < m) (hm : n0 + m ≤ 5864062014700) (hc : ∀ i, i < m → ∀ j, j < 3 → w.cell? ⟨x, ox + i * 3 + j, none⟩ = some ((inW code i).getD j default)) (hb : B ≤ w.heap.size) (H : Nat) (hH : w.heap.size = H)
    (h : ∀ g cap w', w'.ownsRow B 68 3 (.slice (some ⟨g, 0, none⟩) (n0 + m) cap) (n0 + m) (xs ++ flatV m (inW code)) → w.grownBy w' v.ownBlock → (v.ownBlock = some g ∨ g = H) → g < w'.heap.size → K (a.put o.dst (.slice (some ⟨g, 0, none⟩) (n0 + m) cap)) w') :
    if Region.wanted o (yielded ops a.tmps) = true then Oper.wp Tryz.prog o a w K Q else E := by
  obtain ⟨i0, hi, hz0, hz1, hz2⟩ := info_parts infoIn
  exact step_append_lies w hgd s y 69 ho B 68 i0 (.agg #[.int .i64 0, .int .i64 0, .int .i64 0]) 3 24 Tryz.underlying69 hi hz0 hz1 hz2 rfl (by decide) v n0 xs hs hown ⟨x, ox, none⟩ m c (flatV m (inW code)) hy (flatV_len _ _ (fun i _ => inW_len code i)) (row_news (by omega) (fun i _ => inW_len code i) hc) (flatV_one (k := 3) _ _ (fun i _ => inW_one code i)) h0 (by unfold maxLen; omega) (by omega) hb H hH h
end Go.Proofs.YtpfjnnkjoabgbaaGreatDoor
