import Derived.Test.YtjbbbejadhojlaaDoorXAB
import Derived.ChangeKeysEq
import Derived.LaidEql
namespace Go.Proofs.YtjbbbejadhojlaaDoor
open Go.RowKit
set_option linter.unusedVariables false
set_option linter.unusedSimpArgs false
theorem pow_lt64V {k : Nat} (h : k < 64) : 2 ^ k < 18446744073709551616 := by
  have : 2 ^ k < 2 ^ 64 := Nat.pow_lt_pow_right (by omega) h
  simpa using this
theorem wrap_powV {k : Nat} (h : k < 64) : IntKind.u64.wrap (2 ^ k) = ((2 ^ k : Nat) : Int) := by
  have := pow_lt64V h
  rw [show (2 : Int) ^ k = ((2 ^ k : Nat) : Int) by simp]
  generalize 2 ^ k = m at *
  simp [IntKind.wrap, IntKind.bits, IntKind.signed]
  omega
set_option maxRecDepth 100000 in
theorem find_any (w : World) (n : Nat) (hn : n < 16384) : Calls Tryd.prog 65 #[.int .i64 (n : Int)] w fun e w' => e = .returned (.tuple #[.int .i64 ((n / 1024 : Nat) : Int), .int .i64 ((n % 1024 / 64 : Nat) : Int), .int .u64 ((2 ^ (n % 64) : Nat) : Int)]) ∧ Below w.heap.size w w' := by
  have d1 : Int.tdiv (n : Int) 1024 = ((n / 1024 : Nat) : Int) := by rw [Int.tdiv_eq_ediv_of_nonneg (by omega)]; simp
  have m1 : Int.tmod (n : Int) 1024 = ((n % 1024 : Nat) : Int) := by rw [Int.tmod_eq_emod_of_nonneg (by omega)]; simp
  have m2 : Int.tmod (n : Int) 64 = ((n % 64 : Nat) : Int) := by rw [Int.tmod_eq_emod_of_nonneg (by omega)]; simp
  have d2 : Int.tdiv ((n % 1024 : Nat) : Int) 64 = ((n % 1024 / 64 : Nat) : Int) := by rw [Int.tdiv_eq_ediv_of_nonneg (by omega)]; simp
  have w1 : ∀ x : Nat, x < 16384 → IntKind.i64.wrap (x : Int) = (x : Int) := fun x hx => by simp [IntKind.wrap, IntKind.bits, IntKind.signed]; omega
  have a1 := w1 (n / 1024) (by omega)
  have a2 := w1 (n % 1024) (by omega)
  have a3 := w1 (n % 1024 / 64) (by omega)
  have a4 := w1 (n % 64) (by omega)
  have P := wrap_powV (k := n % 64) (by omega)
  have mz : min (n % 64) 64 = n % 64 := by omega
  clear w1 hn
  generalize n / 1024 = x at *
  generalize n % 1024 / 64 = y at *
  generalize n % 1024 = u at *
  generalize n % 64 = z at *
  go_enter Tryd.func65, Tryd.ntmps65
  go_wp2
  go_quiet (fail)
  go_wp2
  go_ret3
  exact ⟨rfl, drewBP _ _⟩
theorem and_two (v k : Nat) : v &&& 2 ^ k = (v.testBit k).toNat * 2 ^ k := by
  apply Nat.eq_of_testBit_eq
  intro i
  rw [Nat.testBit_and, Nat.testBit_two_pow]
  by_cases e : k = i
  · subst e
    cases h : v.testBit k <;> simp [h, Nat.testBit_two_pow]
  · cases h : v.testBit k <;> simp [e, Nat.testBit_two_pow]
theorem and_pow (v k : Nat) (hv : v < 18446744073709551616) (hk : k < 64) : bits .and .u64 (v : Int) ((2 ^ k : Nat) : Int) = (((v.testBit k).toNat * 2 ^ k : Nat) : Int) := by
  rw [u64_and_nat v (2 ^ k) hv (pow_lt64V hk), and_two]
theorem and_yes (v k : Nat) (hv : v < 18446744073709551616) (hk : k < 64) (h : v.testBit k = true) : ((bits .and .u64 (v : Int) ((2 ^ k : Nat) : Int)) != 0) = true := by
  rw [and_pow v k hv hk, h]
  have := Nat.two_pow_pos k
  generalize 2 ^ k = m at *
  simp
  omega
theorem and_no (v k : Nat) (hv : v < 18446744073709551616) (hk : k < 64) (h : v.testBit k = false) : ((bits .and .u64 (v : Int) ((2 ^ k : Nat) : Int)) != 0) = false := by
  rw [and_pow v k hv hk, h]
  simp
set_option maxRecDepth 100000 in
theorem kept_any {w : World} {B : Nat} {G : Tg} {x tb : Nat} {ps : Nat → Option Nat} {s : Vs} (h : SvR w B G x tb ps s) (n : Nat) (hn : n < 16384) :
    Calls Tryd.prog 43 #[.pointer (some ⟨x, 2, none⟩), .int .i64 (n : Int)] w fun e w' => e = .returned (.int .u8 ((s.sl n : Nat) : Int)) ∧ Below w.heap.size w w' := by
  have F := Lib.hid (find_any w n hn)
  have hj : n / 1024 < 16 := by omega
  have en : n / 1024 * 1024 + n % 1024 = n := by omega
  have P := h.slt (n / 1024) hj
  have C := Lib.hid (fun W (b : Below w.heap.size w W) => (h.box.lat b).cell (2 + n / 1024))
  have hy : n % 1024 / 64 < 16 := by omega
  have hz : n % 64 < 64 := by omega
  have ez : n % 1024 % 64 = n % 64 := by omega
  rcases P with ⟨p0, pz⟩ | ⟨b, sh, p0, _, hS, pf⟩
  · have R : s.sl n = 0 := by have := pz (n % 1024) (by omega); simp only [en] at this; exact this
    rw [R]
    simp only [stA_sh _ _ _ _ hj, p0, ptN, Option.map_none] at C
    clear h pz R p0
    generalize n / 1024 = j at *
    generalize n % 1024 / 64 = y at *
    generalize n % 64 = z at *
    have k0 : ¬ (j : Int) < 0 := by omega
    have k1 : (j : Int) < 16 := by omega
    go_enter Tryd.func43, Tryd.ntmps43
    go_wp2_with (go_at_call 65; refine F.out.mono ?_; rintro e w1 ⟨rfl, h1⟩; have B1 := Lib.hid h1; have c := C.out w1 h1; clear h1)
    go_ret
    exact ⟨rfl, B1.out⟩
  · have R : s.sl n = bitS sh (n % 1024) := by have := pf (n % 1024) (by omega); simp only [en] at this; exact this
    rw [R]
    unfold bitS
    rw [ez]
    simp only [stA_sh _ _ _ _ hj, p0, ptN, Option.map_some] at C
    have D0 := Lib.hid (fun W (b : Below w.heap.size w W) => (hS.box.lat b).cell (n % 1024 / 64 * 2))
    have D1 := Lib.hid (fun W (b : Below w.heap.size w W) => (hS.box.lat b).cell (n % 1024 / 64 * 2 + 1))
    simp only [shA_at _ (n % 1024 / 64 * 2) (by omega)] at D0
    simp only [shA_at _ (n % 1024 / 64 * 2 + 1) (by omega)] at D1
    have z0 := hS.sz (n % 1024 / 64 * 2)
    have z1 := hS.sz (n % 1024 / 64 * 2 + 1)
    clear h pf R p0 hS
    generalize sh (n % 1024 / 64 * 2) = u at *
    generalize sh (n % 1024 / 64 * 2 + 1) = v at *
    generalize n / 1024 = j at *
    generalize n % 1024 / 64 = y at *
    generalize n % 64 = z at *
    clear en ez hn
    have k0 : ¬ (j : Int) < 0 := by omega
    have k1 : (j : Int) < 16 := by omega
    have k2 : ¬ (y : Int) < 0 := by omega
    have k3 : (y : Int) < 16 := by omega
    cases t0 : u.testBit z with
    | true =>
      have a0 := and_yes u z z0 hz t0
      clear hz
      simp only [if_true]
      generalize 2 ^ z = m at *
      go_enter Tryd.func43, Tryd.ntmps43
      go_wp2_with (go_at_call 65; refine F.out.mono ?_; rintro e w1 ⟨rfl, h1⟩; have B1 := Lib.hid h1; have c := C.out w1 h1; have d0 := D0.out w1 h1; have d1 := D1.out w1 h1; clear h1)
      go_ret
      exact ⟨rfl, B1.out.alloc B1.out.size _⟩
    | false =>
      have a0 := and_no u z z0 hz t0
      cases t1 : v.testBit z with
      | true =>
        have a1 := and_yes v z z1 hz t1
        clear hz
        simp only [if_true, if_false, Bool.false_eq_true]
        generalize 2 ^ z = m at *
        go_enter Tryd.func43, Tryd.ntmps43
        go_wp2_with (go_at_call 65; refine F.out.mono ?_; rintro e w1 ⟨rfl, h1⟩; have B1 := Lib.hid h1; have c := C.out w1 h1; have d0 := D0.out w1 h1; have d1 := D1.out w1 h1; clear h1)
        go_ret
        exact ⟨rfl, B1.out.alloc B1.out.size _⟩
      | false =>
        have a1 := and_no v z z1 hz t1
        clear hz
        simp only [if_true, if_false, Bool.false_eq_true]
        generalize 2 ^ z = m at *
        go_enter Tryd.func43, Tryd.ntmps43
        go_wp2_with (go_at_call 65; refine F.out.mono ?_; rintro e w1 ⟨rfl, h1⟩; have B1 := Lib.hid h1; have c := C.out w1 h1; have d0 := D0.out w1 h1; have d1 := D1.out w1 h1; clear h1)
        go_ret
        exact ⟨rfl, B1.out.alloc B1.out.size _⟩
end Go.Proofs.YtjbbbejadhojlaaDoor

namespace Go.Proofs.YtjbbbejadhojlaaDoor
open Go.RowKit
set_option linter.unusedVariables false
set_option linter.unusedSimpArgs false
theorem gx_refl (r : Option Nat) (w : World) : w.grownBy w r := ⟨rfl, rfl, rfl, Nat.le_refl _, fun _ _ _ => rfl⟩
theorem gx_trans {r : Option Nat} {a b c : World} (h : a.grownBy b r) (k : b.grownBy c r) : a.grownBy c r :=
  ⟨k.os.trans h.os, k.tape.trans h.tape, k.output.trans h.output, Nat.le_trans h.size k.size, fun i hi hr => (k.block i (Nat.lt_of_lt_of_le hi h.size) hr).trans (h.block i hi hr)⟩
theorem gx_new {r : Option Nat} {q : Nat} {a b : World} (h : a.grownBy b r) (hq : a.heap.size ≤ q) (o : Nat) (v : Value) : a.grownBy (b.setCell ⟨q, o, none⟩ v) r := by
  have g := setCell_gr b q o v
  exact ⟨g.os.trans h.os, g.tape.trans h.tape, g.output.trans h.output, Nat.le_trans h.size g.size, fun i hi hr => (g.block i (Nat.lt_of_lt_of_le hi h.size) (by intro e; injection e with e; omega)).trans (h.block i hi hr)⟩
theorem gx_at {p : Nat} {a b : World} (h : a.grownBy b (some p)) (o : Nat) (v : Value) : a.grownBy (b.setCell ⟨p, o, none⟩ v) (some p) := gx_trans h (setCell_gr b p o v)
theorem gx_bel {r : Option Nat} {a b c : World} (h : a.grownBy b r) (k : Below b.heap.size b c) : a.grownBy c r := gx_trans h (gr_below k r)
theorem gx_alloc {r : Option Nat} {a b : World} (h : a.grownBy b r) (o : Obj) : a.grownBy (b.alloc o) r := gx_bel h (allocBP b o)
theorem gx_drew {r : Option Nat} {a b : World} (h : a.grownBy b r) : a.grownBy b.drew r := ⟨h.os, h.tape, h.output, h.size, h.block⟩
theorem gx_out {B p : Nat} {a b : World} (h : a.grownBy b (some p)) (hB : B ≤ p) (hs : B ≤ a.heap.size) : Below B a b := (Below.refl B a).grown h hs (fun k e => by injection e with e; omega)
/-- What has been taken so far. -/
def tkE (n m : Nat) (st : List Nat) (i : Nat) : Nat := if i < n ∧ n - 1 - i < m then st.getD (n - 1 - i) 0 else 0
def tkV (n m : Nat) (st : List Nat) : Array Value := #[.int .u8 ((tkE n m st 0 : Nat) : Int), .int .u8 ((tkE n m st 1 : Nat) : Int), .int .u8 ((tkE n m st 2 : Nat) : Int)]
theorem tkV_next {n m : Nat} {st : List Nat} (hn : n ≤ 3) (hm : m < n) : (tkV n m st).set! (n - 1 - m) (.int .u8 ((st.getD m 0 : Nat) : Int)) = tkV n (m + 1) st := by
  have h3 : n = 1 ∨ n = 2 ∨ n = 3 := by omega
  rcases h3 with rfl | rfl | rfl
  · obtain rfl : m = 0 := by omega
    simp [tkV, tkE]
  · have : m = 0 ∨ m = 1 := by omega
    rcases this with rfl | rfl <;> simp [tkV, tkE]
  · have : m = 0 ∨ m = 1 ∨ m = 2 := by omega
    rcases this with rfl | rfl | rfl <;> simp [tkV, tkE]
def aggS (l : List Nat) : Value := .agg (l.map (fun x => Value.int .u8 ((x : Nat) : Int))).toArray
theorem tkV_end {n : Nat} {st : List Nat} (hn : n ≤ 3) : Value.agg (tkV n n st) = aggS (vTak n st) := by
  have h3 : n = 0 ∨ n = 1 ∨ n = 2 ∨ n = 3 := by omega
  rcases h3 with rfl | rfl | rfl | rfl <;> simp [tkV, tkE, aggS, vTak]
theorem drop_cons {st : List Nat} {k : Nat} (h : k < st.length) : st.drop k = st.getD k 0 :: st.drop (k + 1) := by
  rw [List.drop_eq_getElem_cons h]
  simp [List.getD, h]
theorem stA_set0 (tb tb' h : Nat) (ps : Nat → Option Nat) : (stA tb h ps).set! 0 (.pointer (some ⟨tb', 0, none⟩)) = stA tb' h ps := by simp [stA]
theorem stA_set1 (tb h h' : Nat) (ps : Nat → Option Nat) : (stA tb h ps).set! 1 (.int .i64 (h' : Int)) = stA tb h' ps := by simp [stA]
theorem BkP.set2 {w : World} {b : Nat} {cs : Array Value} {t : TypeId} (h : BkP w b cs t) (k : Nat) (v : Value) (hk : k < cs.size) : BkP (w.setCell ⟨b, k, none⟩ v) b (cs.set! k v) t := by
  have := h.set k v hk
  rw [Array.set!_eq_setIfInBounds]
  simpa [Array.setIfInBounds, hk] using this
theorem boxV3 {w : World} {x : Nat} {a b c : Value} {t : TypeId} (k : BkP w x #[a, b, c] t) : w.cell? ⟨x, 0, none⟩ = some a ∧ w.cell? ⟨x, 1, none⟩ = some b ∧ w.cell? ⟨x, 2, none⟩ = some c := by
  refine ⟨?_, ?_, ?_⟩ <;> simp [k.cell]
structure TakE (w : World) (B : Nat) (G : Tg) (x : Nat) (ps : Nat → Option Nat) (s : Vs) (n : Nat) (e : Ending) (w' : World) : Prop where
  ret : e = .returned (aggS (vTak n s.st))
  sta : ∃ tb, SvR w' B G x tb ps ⟨s.st.drop n, s.sl⟩
  gro : w.grownBy w' (some x)
set_option maxRecDepth 100000 in
set_option maxHeartbeats 1000000 in
theorem takeV_any {w : World} {B : Nat} {G : Tg} {x tb : Nat} {ps : Nat → Option Nat} {s : Vs} (hT : Tri w B G) (h : SvR w B G x tb ps s) (n : Nat) (hn : n ≤ 3) (hl : n ≤ s.st.length) (hz : s.st.length ≤ 262144) :
    Calls Tryd.prog 40 #[.pointer (some ⟨x, 0, none⟩), .int .i64 (n : Int)] w fun e w' => TakE w B G x ps s n e w' := by
  have HX := Lib.hid (p := x < w.heap.size) h.box.lt
  have HS := Lib.hid h
  have HT := Lib.hid hT
  have b0 := h.box
  clear h hT
  go_enter Tryd.func40, Tryd.ntmps40
  go_wp2
  go_loopw [8] (fun t wr => ∃ (k tbk : Nat), k ≤ n ∧ t = .int .i64 (k : Int) ∧ G (s.st.drop k) = some tbk ∧ BkP wr x (stA tbk s.st.length ps) 61 ∧ BkP wr (w.heap.size + 1) (tkV n k s.st) 95 ∧ BkP wr w.heap.size #[.int .u8 0, .int .u8 0, .int .u8 0] 95 ∧ w.grownBy wr (some x)) (fun t _ => n - (intOf t).toNat)
  case atStart =>
    refine ⟨0, tb, by omega, rfl, HS.out.top, ?_, ?_, ?_, ?_⟩
    · exact ((b0.lat (allocBP _ _)).lat (allocBP _ _))
    · have := heapN (w.alloc (.cells #[.int .u8 0, .int .u8 0, .int .u8 0] 95)) (.cells #[.int .u8 0, .int .u8 0, .int .u8 0] 95)
      have e : tkV n 0 s.st = #[.int .u8 0, .int .u8 0, .int .u8 0] := by simp [tkV, tkE]
      rw [e]
      simpa [BkP] using this
    · exact BkP.lat (heapN w (.cells #[.int .u8 0, .int .u8 0, .int .u8 0] 95)) (allocBP _ _)
    · exact gx_alloc (gx_alloc (gx_refl _ _) _) _
  case round =>
    rename World => wr
    obtain ⟨k, tbk, hk, rfl, hg, hX, hK, hR, hgr⟩ := hrel
    clear b0
    by_cases hlt : k < n
    · have kc : (k : Int) < (n : Int) := by omega
      have ks : IntKind.i64.wrap ((k : Int) + 1) = (k : Int) + 1 := by simp [IntKind.wrap, IntKind.bits, IntKind.signed]; omega
      obtain ⟨i, hi⟩ : ∃ i : Nat, n = k + 1 + i := ⟨n - k - 1, by omega⟩
      have n1 : IntKind.i64.wrap ((n : Int) - 1) = (n : Int) - 1 := by simp [IntKind.wrap, IntKind.bits, IntKind.signed]; omega
      have n2 : IntKind.i64.wrap ((n : Int) - 1 - (k : Int)) = (i : Int) := by simp [IntKind.wrap, IntKind.bits, IntKind.signed]; omega
      have i3 : (i : Int) < 3 := by omega
      have dc := drop_cons (st := s.st) (k := k) (by omega)
      rw [dc] at hg
      have ei : n - 1 - k = i := by omega
      have KN := Lib.hid (tkV_next (st := s.st) hn hlt)
      rw [ei] at KN
      generalize hy : s.st.getD k 0 = y at *
      clear hy dc
      obtain ⟨c, hc⟩ := HT.out.pre _ _ _ hg
      have hb : BkP wr tbk (cellA G (y :: s.st.drop (k + 1))) 78 := (HT.out.box _ _ hg).2.grown hgr (by intro q; injection q with q; exact bk_ne (HT.out.box _ _ hg).2 HS.out.box (by decide) q)
      have NE1 : tbk ≠ w.heap.size + 1 := bk_ne hb hK (by decide)
      have NE2 : x ≠ w.heap.size + 1 := bk_ne hX hK (by decide)
      have c0 := hX.cell 0
      have f0 := hX.frozen 0
      rw [stA_top] at c0
      have d0 := hb.cell 0
      have d1 := hb.cell 1
      simp [cellA, blwN, hc, ptN] at d0 d1
      have fK := hK.frozen i
      obtain ⟨vK, cK⟩ : ∃ v, wr.cell? ⟨w.heap.size + 1, i, none⟩ = some v := by
        rw [hK.cell i]
        exact ⟨_, Array.getElem?_eq_getElem (by simp [tkV]; omega)⟩
      have K2 := Lib.hid (hK.set2 i (.int .u8 (y : Int)) (by simp [tkV]; omega))
      have X2 := Lib.hid (hX.other (w.heap.size + 1) i (.int .u8 (y : Int)) (Ne.symm NE2))
      have B2 := Lib.hid (hb.other (w.heap.size + 1) i (.int .u8 (y : Int)) (Ne.symm NE1))
      have R2 := Lib.hid (hR.other (w.heap.size + 1) i (.int .u8 (y : Int)) (by omega))
      have G2 := Lib.hid (gx_new hgr (q := w.heap.size + 1) (by omega) i (.int .u8 (y : Int)))
      have c2 := X2.out.cell 0
      have f2 := X2.out.frozen 0
      rw [stA_top] at c2
      have g0 := B2.out.cell 1
      simp [cellA, blwN, hc, ptN] at g0
      have HI := Lib.hid hi
      clear hb hX hK hR hgr hg hi ei
      go_wp2
      go_roundw
      case rel =>
        refine ⟨k + 1, c, by omega, by go_num, hc, ?_, ?_, ?_, ?_⟩
        · have := X2.out.set2 0 (.pointer (some ⟨c, 0, none⟩)) (by rw [stA_size]; omega)
          rw [stA_set0] at this
          exact this
        · have := K2.out.other x 0 (.pointer (some ⟨c, 0, none⟩)) NE2
          rw [KN.out] at this
          exact this
        · exact R2.out.other x 0 (.pointer (some ⟨c, 0, none⟩)) (by have := HX.out; omega)
        · exact gx_at G2.out 0 _
      case measure => simp [intOf]; omega
    · obtain rfl : k = n := by omega
      have NE1 := Lib.hid (p := x ≠ w.heap.size) (by have := HX.out; omega)
      have NE2 := Lib.hid (p := x ≠ w.heap.size + 1) (by have := HX.out; omega)
      have c1 := hX.cell 1
      have f1 := hX.frozen 1
      rw [stA_ht] at c1
      have w1 : IntKind.i64.wrap ((s.st.length : Int) - (k : Int)) = ((s.st.length - k : Nat) : Int) := by simp [IntKind.wrap, IntKind.bits, IntKind.signed]; omega
      have X2 := Lib.hid (hX.set2 1 (.int .i64 ((s.st.length - k : Nat) : Int)) (by rw [stA_size]; omega))
      have K2 := Lib.hid (hK.other x 1 (.int .i64 ((s.st.length - k : Nat) : Int)) NE2.out)
      have R2 := Lib.hid (hR.other x 1 (.int .i64 ((s.st.length - k : Nat) : Int)) NE1.out)
      have G2 := Lib.hid (gx_at hgr 1 (.int .i64 ((s.st.length - k : Nat) : Int)))
      have VE := Lib.hid (tkV_end (st := s.st) hn)
      have HG := Lib.hid hg
      obtain ⟨k0, k1, k2⟩ := boxV3 K2.out
      obtain ⟨r0, r1, r2⟩ := boxV3 R2.out
      have g0 := R2.out.frozen 0
      have g1 := R2.out.frozen 1
      have g2 := R2.out.frozen 2
      clear hX hK hR hgr hg
      obtain ⟨z, hz2⟩ : ∃ z, s.st.length - k = z := ⟨_, rfl⟩
      have HZ := Lib.hid hz2
      rw [hz2] at w1 X2 K2 R2 G2 k0 k1 k2 r0 r1 r2 g0 g1 g2
      clear hz2
      go_wp2
      have G3 := gx_new (gx_new (gx_new G2.out (q := w.heap.size) (Nat.le_refl _) 0 (.int .u8 ((tkE k k s.st 0 : Nat) : Int))) (q := w.heap.size) (Nat.le_refl _) 1 (.int .u8 ((tkE k k s.st 1 : Nat) : Int))) (q := w.heap.size) (Nat.le_refl _) 2 (.int .u8 ((tkE k k s.st 2 : Nat) : Int))
      have X3 := ((X2.out.other w.heap.size 0 (.int .u8 ((tkE k k s.st 0 : Nat) : Int)) (Ne.symm NE1.out)).other w.heap.size 1 (.int .u8 ((tkE k k s.st 1 : Nat) : Int)) (Ne.symm NE1.out)).other w.heap.size 2 (.int .u8 ((tkE k k s.st 2 : Nat) : Int)) (Ne.symm NE1.out)
      have R3 := ((R2.out.set2 0 (.int .u8 ((tkE k k s.st 0 : Nat) : Int)) (by simp)).set2 1 (.int .u8 ((tkE k k s.st 1 : Nat) : Int)) (by simp)).set2 2 (.int .u8 ((tkE k k s.st 2 : Nat) : Int)) (by simp)
      have R4 := boxV3 (by simpa using R3)
      obtain ⟨q0, q1, q2⟩ := R4
      have ZL := HZ.out
      refine bodyPost_ret (v := .agg (tkV k k s.st)) ?r rfl ?s
      case r => simp [results, Tryd.results40, go_sem, q0, q1, q2, tkV]
      case s =>
        refine ⟨by rw [VE.out], ⟨tbk, ⟨HG.out, ?_, ?_, HS.out.low⟩⟩, G3⟩
        · rw [stA_set1] at X3
          simpa [ZL] using X3
        · exact HS.out.slt.other G3 HS.out.box (by decide)
end Go.Proofs.YtjbbbejadhojlaaDoor

namespace Go.Proofs.YtjbbbejadhojlaaDoor
open Go.RowKit
set_option linter.unusedVariables false
set_option linter.unusedSimpArgs false
/-- What may turn: cells of stacks, and the blocks X; the stacks that were there stay. -/
structure Chg (w w' : World) (B : Nat) (G G' : Tg) (X : Nat → Prop) : Prop where
  tri : Tri w' B G'
  ext : ∀ t b, G t = some b → G' t = some b
  stay : ∀ b y t, BkP w b y t → ¬ X b → t ≠ 78 → BkP w' b y t
  bel : Below B w w'
theorem Chg.trans {a b c : World} {B : Nat} {G H K : Tg} {X : Nat → Prop} (h : Chg a b B G H X) (k : Chg b c B H K X) : Chg a c B G K X :=
  ⟨k.tri, fun t b e => k.ext t b (h.ext t b e), fun d y t e n z => k.stay d y t (h.stay d y t e n z) n z, h.bel.trans (k.bel.mono (Nat.le_refl _))⟩
theorem Chg.mono {a b : World} {B : Nat} {G H : Tg} {X Y : Nat → Prop} (h : Chg a b B G H X) (k : ∀ z, X z → Y z) : Chg a b B G H Y :=
  ⟨h.tri, h.ext, fun d y t e n z => h.stay d y t e (fun q => n (k _ q)) z, h.bel⟩
theorem Chg.refl {a : World} {B : Nat} {G : Tg} {X : Nat → Prop} (h : Tri a B G) : Chg a a B G G X := ⟨h, fun _ _ e => e, fun _ _ _ e _ _ => e, Below.refl _ _⟩
theorem Chg.later {a b c : World} {B : Nat} {G H : Tg} {X : Nat → Prop} (h : Chg a b B G H X) (hB : B ≤ b.heap.size) (k : Below b.heap.size b c) : Chg a c B G H X :=
  ⟨h.tri.later k, h.ext, fun d y t e n z => (h.stay d y t e n z).lat k, h.bel.trans (k.mono hB)⟩
theorem Chg.ofGrown {a b : World} {B : Nat} {G : Tg} {x : Nat} {y : Array Value} {t : TypeId} (h : Tri a B G) (g : a.grownBy b (some x)) (hx : BkP a x y t) (ht : t ≠ 78) (hB : B ≤ x) : Chg a b B G G (fun z => z = x) :=
  ⟨h.other g hx ht, fun _ _ e => e, fun d z u e n _ => e.grown g (by intro q; injection q with q; exact n q), gx_out g hB (Nat.le_of_lt (Nat.lt_of_le_of_lt hB hx.lt))⟩
theorem PaR.chg {a b : World} {B : Nat} {G H : Tg} {X : Nat → Prop} {p : Option Nat} {f : Nat → Nat} (h : PaR a B p f) (k : Chg a b B G H X) (hX : ∀ z y, BkP a z y 132 → ¬ X z) : PaR b B p f := by
  rcases h with h | ⟨d, sh, h1, h2, h3, h4⟩
  · exact .inl h
  · exact .inr ⟨d, sh, h1, h2, ⟨k.stay _ _ _ h3.box (hX _ _ h3.box) (by decide), h3.sz, h3.ap⟩, h4⟩
theorem SlR.chg {a b : World} {B : Nat} {G H : Tg} {X : Nat → Prop} {ps : Nat → Option Nat} {f : Nat → Nat} (h : SlR a B ps f) (k : Chg a b B G H X) (hX : ∀ z y, BkP a z y 132 → ¬ X z) : SlR b B ps f := fun j hj => (h j hj).chg k hX
theorem SvR.chg {a b : World} {B : Nat} {G H : Tg} {X : Nat → Prop} {x tb : Nat} {ps : Nat → Option Nat} {s : Vs} (h : SvR a B G x tb ps s) (k : Chg a b B G H X) (hX : ∀ z y, BkP a z y 132 → ¬ X z) (hx : ¬ X x) : SvR b B H x tb ps s :=
  ⟨k.ext _ _ h.top, k.stay _ _ _ h.box hx (by decide), h.slt.chg k hX, h.low⟩
/-- A new cell upon a stack. -/
def updG (G : Tg) (s : List Nat) (n : Nat) : Tg := fun t => if t = s then some n else G t
theorem tri_put {w : World} {B : Nat} {G : Tg} {st : List Nat} {tb v : Nat} (h : Tri w B G) (hs : G st = some tb) (hn : G (v :: st) = none) (hv : v = 1 ∨ v = 2) (hB : B ≤ w.heap.size) :
    Tri ((w.alloc (.cells #[.int .u8 (v : Int), .pointer (some ⟨tb, 0, none⟩), .pointer none, .pointer none, .pointer none] 78)).setCell ⟨tb, 2 + v, none⟩ (.pointer (some ⟨w.heap.size, 0, none⟩))) B (updG G (v :: st) w.heap.size) := by
  have lt : tb < w.heap.size := (h.box _ _ hs).2.lt
  have ne : st ≠ v :: st := by intro e; have := congrArg List.length e; simp at this
  have up : ∀ y, G (y :: v :: st) = none := fun y => by
    cases e : G (y :: v :: st) with
    | none => rfl
    | some b => obtain ⟨c, hc⟩ := h.pre _ _ _ e; rw [hn] at hc; cases hc
  have Us : updG G (v :: st) w.heap.size st = some tb := by unfold updG; rw [if_neg ne]; exact hs
  have Ui : ∀ t, t ≠ v :: st → updG G (v :: st) w.heap.size t = G t := fun t ht => by unfold updG; rw [if_neg ht]
  have Un : updG G (v :: st) w.heap.size (v :: st) = some w.heap.size := by unfold updG; rw [if_pos rfl]
  refine ⟨?_, ?_, ?_, ?_⟩
  · obtain ⟨r, hr⟩ := h.root
    exact ⟨r, by rw [Ui _ (by simp)]; exact hr⟩
  · intro t b e
    by_cases ht : t = v :: st
    · subst ht
      rw [Un] at e
      injection e with e
      subst e
      refine ⟨hB, ?_⟩
      have k : BkP (w.alloc (.cells #[.int .u8 (v : Int), .pointer (some ⟨tb, 0, none⟩), .pointer none, .pointer none, .pointer none] 78)) w.heap.size _ _ := heapN _ _
      have k2 := k.other tb (2 + v) (.pointer (some ⟨w.heap.size, 0, none⟩)) (by omega)
      have l1 : ∀ y : Nat, (y :: v :: st) ≠ v :: st := by intro y e; have := congrArg List.length e; simp at this
      unfold cellA
      simp only [blwN, Us, Ui _ (l1 1), Ui _ (l1 2), up, List.headD_cons]
      exact k2
    · rw [Ui _ ht] at e
      obtain ⟨b1, b2⟩ := h.box t b e
      refine ⟨b1, ?_⟩
      have bl : blwN (updG G (v :: st) w.heap.size) t = blwN G t := by
        cases t with
        | nil => rfl
        | cons y u =>
          show updG G (v :: st) w.heap.size u = G u
          by_cases hu : u = v :: st
          · subst hu; rw [up] at e; cases e
          · exact Ui _ hu
      by_cases hb : t = st
      · subst hb
        have q : b = tb := by rw [hs] at e; injection e with e; exact e.symm
        subst q
        have k := (b2.lat (allocBP w (.cells #[.int .u8 (v : Int), .pointer (some ⟨b, 0, none⟩), .pointer none, .pointer none, .pointer none] 78))).set2 (2 + v) (.pointer (some ⟨w.heap.size, 0, none⟩)) (by simp [cellA]; omega)
        have ce : (cellA G t).set! (2 + v) (.pointer (some ⟨w.heap.size, 0, none⟩)) = cellA (updG G (v :: t) w.heap.size) t := by
          unfold cellA
          rw [bl]
          rcases hv with rfl | rfl
          · rw [Un, Ui _ (by simp)]
            simp [ptN]
          · rw [Un, Ui _ (by simp)]
            simp [ptN]
        rw [ce] at k
        exact k
      · have c1 : ∀ y : Nat, (y :: t) ≠ v :: st := by intro y e; injection e with _ e; exact hb e
        unfold cellA
        rw [bl, Ui _ (c1 1), Ui _ (c1 2)]
        have nb : tb ≠ b := fun q => hb (h.inj t st tb (by rw [e, q]) hs)
        exact (b2.lat (allocBP _ _)).other tb (2 + v) _ nb
  · intro s t b e1 e2
    have lt2 : ∀ s b, G s = some b → b < w.heap.size := fun s b e => (h.box s b e).2.lt
    by_cases h1 : s = v :: st <;> by_cases h2 : t = v :: st
    · rw [h1, h2]
    · subst h1
      rw [Un] at e1
      rw [Ui _ h2] at e2
      injection e1 with e1
      have := lt2 _ _ e2
      omega
    · subst h2
      rw [Un] at e2
      rw [Ui _ h1] at e1
      injection e2 with e2
      have := lt2 _ _ e1
      omega
    · rw [Ui _ h1] at e1
      rw [Ui _ h2] at e2
      exact h.inj _ _ _ e1 e2
  · intro y u b e
    by_cases h1 : y :: u = v :: st
    · injection h1 with _ h1
      subst h1
      exact ⟨tb, Us⟩
    · rw [Ui _ h1] at e
      obtain ⟨c, hc⟩ := h.pre _ _ _ e
      by_cases h2 : u = v :: st
      · exact ⟨w.heap.size, by rw [h2]; exact Un⟩
      · exact ⟨c, by rw [Ui _ h2]; exact hc⟩
structure PutE (w : World) (B : Nat) (G : Tg) (x : Nat) (ps : Nat → Option Nat) (s : Vs) (v : Nat) (e : Ending) (w' : World) : Prop where
  ret : e = .returned (.tuple #[])
  sta : ∃ G' tb, Chg w w' B G G' (fun z => z = x) ∧ SvR w' B G' x tb ps ⟨v :: s.st, s.sl⟩
theorem put_mk {w w1 : World} {B : Nat} {G G' : Tg} {x tb c : Nat} {ps : Nat → Option Nat} {s : Vs} {v : Nat} (h : SvR w B G x tb ps s) (k : Chg w w1 B G G' (fun z => z = x)) (hx : BkP w1 x (stA tb s.st.length ps) 61) (hc : G' (v :: s.st) = some c) (hz : s.st.length ≤ 262144) :
    PutE w B G x ps s v (.returned (.tuple #[])) ((w1.setCell ⟨x, 0, none⟩ (.pointer (some ⟨c, 0, none⟩))).setCell ⟨x, 1, none⟩ (.int .i64 ((s.st.length : Int) + 1))) := by
  have g : w1.grownBy ((w1.setCell ⟨x, 0, none⟩ (.pointer (some ⟨c, 0, none⟩))).setCell ⟨x, 1, none⟩ (.int .i64 ((s.st.length : Int) + 1))) (some x) := gx_at (gx_at (gx_refl _ _) _ _) _ _
  have X1 := (hx.set2 0 (.pointer (some ⟨c, 0, none⟩)) (by rw [stA_size]; omega))
  rw [stA_set0] at X1
  have X2 := (X1.set2 1 (.int .i64 ((s.st.length + 1 : Nat) : Int)) (by rw [stA_size]; omega))
  rw [stA_set1] at X2
  have cc := Chg.ofGrown k.tri g hx (by decide) h.low
  have sl1 : SlR w1 B ps s.sl := h.slt.chg k (fun z y hz e => bk_ne hz h.box (by decide) e)
  have sl2 := sl1.chg cc (fun z y hz e => bk_ne hz hx (by decide) e)
  refine ⟨rfl, G', c, k.trans cc, ⟨hc, ?_, sl2, h.low⟩⟩
  simpa using X2
set_option maxRecDepth 100000 in
set_option maxHeartbeats 1000000 in
theorem put_old {w : World} {B : Nat} {G : Tg} {x tb : Nat} {ps : Nat → Option Nat} {s : Vs} (hT : Tri w B G) (h : SvR w B G x tb ps s) (v c : Nat) (hv : v = 1 ∨ v = 2) (hz : s.st.length ≤ 262144) (hc : G (v :: s.st) = some c) :
    Calls Tryd.prog 44 #[.pointer (some ⟨x, 0, none⟩), .int .u8 (v : Int)] w fun e w' => PutE w B G x ps s v e w' := by
  have E := Lib.hid (put_mk h (Chg.refl hT) h.box hc hz)
  have c0 := h.box.cell 0
  have c1 := h.box.cell 1
  have f0 := h.box.frozen 0
  have f1 := h.box.frozen 1
  rw [stA_top] at c0
  rw [stA_ht] at c1
  have hb := (hT.box _ _ h.top).2
  have d := hb.cell (2 + v)
  have X1 := (h.box.set2 0 (.pointer (some ⟨c, 0, none⟩)) (by rw [stA_size]; omega))
  rw [stA_set0] at X1
  have e1 := X1.cell 1
  have g1 := X1.frozen 1
  rw [stA_ht] at e1
  have w1 : IntKind.i64.wrap ((s.st.length : Int) + 1) = (s.st.length : Int) + 1 := by simp [IntKind.wrap, IntKind.bits, IntKind.signed]; omega
  have dd : w.cell? ⟨tb, 2 + v, none⟩ = some (.pointer (some ⟨c, 0, none⟩)) := by
    rw [d]
    rcases hv with rfl | rfl <;> simp [cellA, hc, ptN]
  clear d hb X1 h hT hc
  generalize s.st.length = len at *
  rcases hv with rfl | rfl
  all_goals
    go_enter Tryd.func44, Tryd.ntmps44
    go_wp2
    go_end0
    exact E.out
/-- The cell that a new value gets. -/
def newC (v tb : Nat) : Obj := .cells #[.int .u8 (v : Int), .pointer (some ⟨tb, 0, none⟩), .pointer none, .pointer none, .pointer none] 78
theorem chg_put {w : World} {B : Nat} {G : Tg} {st : List Nat} {tb v : Nat} {X : Nat → Prop} (h : Tri w B G) (hs : G st = some tb) (hn : G (v :: st) = none) (hv : v = 1 ∨ v = 2) (hB : B ≤ w.heap.size) :
    Chg w ((w.alloc (newC v tb)).setCell ⟨tb, 2 + v, none⟩ (.pointer (some ⟨w.heap.size, 0, none⟩))) B G (updG G (v :: st) w.heap.size) X := by
  refine ⟨tri_put h hs hn hv hB, ?_, ?_, ?_⟩
  · intro t b e
    unfold updG
    rw [if_neg (by intro q; rw [q, hn] at e; cases e)]
    exact e
  · intro b y t e _ ht
    exact (e.lat (allocBP _ _)).other tb _ _ (fun q => bk_ne e (h.box _ _ hs).2 ht q.symm)
  · have b1 := (h.box _ _ hs).1
    exact ((Below.refl B w).alloc hB _).setCell (p := ⟨tb, 2 + v, none⟩) b1 _
set_option maxRecDepth 100000 in
set_option maxHeartbeats 1000000 in
theorem put_new {w : World} {B : Nat} {G : Tg} {x tb : Nat} {ps : Nat → Option Nat} {s : Vs} (hT : Tri w B G) (h : SvR w B G x tb ps s) (v : Nat) (hv : v = 1 ∨ v = 2) (hz : s.st.length ≤ 262144) (hB : B ≤ w.heap.size) (hc : G (v :: s.st) = none) :
    Calls Tryd.prog 44 #[.pointer (some ⟨x, 0, none⟩), .int .u8 (v : Int)] w fun e w' => PutE w B G x ps s v e w' := by
  have nx : tb ≠ x := bk_ne (hT.box _ _ h.top).2 h.box (by decide)
  have C := chg_put (X := fun z => z = x) hT h.top hc hv hB
  have hb := (hT.box _ _ h.top).2
  have d : w.cell? ⟨tb, 2 + v, none⟩ = some (.pointer none) := by
    rw [hb.cell]
    rcases hv with rfl | rfl <;> simp [cellA, hc, ptN]
  have b1 := hb.lat (allocBP w (newC v tb))
  have d1 : (w.alloc (newC v tb)).cell? ⟨tb, 2 + v, none⟩ = some (.pointer none) := by
    rw [b1.cell]
    rcases hv with rfl | rfl <;> simp [cellA, hc, ptN]
  have d2 := b1.frozen (2 + v)
  have x1 := h.box.lat (allocBP w (newC v tb))
  have x2 := x1.other tb (2 + v) (.pointer (some ⟨w.heap.size, 0, none⟩)) nx
  have E := Lib.hid (put_mk h C x2 (c := w.heap.size) (by unfold updG; rw [if_pos rfl]) hz)
  have c0 := h.box.cell 0
  have a0 := x1.cell 0
  have e0 := x2.cell 0
  have e1 := x2.cell 1
  have f0 := x2.frozen 0
  have f1 := x2.frozen 1
  rw [stA_top] at c0 a0 e0
  rw [stA_ht] at e1
  have X1 := (x2.set2 0 (.pointer (some ⟨w.heap.size, 0, none⟩)) (by rw [stA_size]; omega))
  rw [stA_set0] at X1
  have r1 := X1.cell 1
  have g1 := X1.frozen 1
  rw [stA_ht] at r1
  have w1 : IntKind.i64.wrap ((s.st.length : Int) + 1) = (s.st.length : Int) + 1 := by simp [IntKind.wrap, IntKind.bits, IntKind.signed]; omega
  unfold newC at *
  clear hb b1 x1 x2 X1 C h hT hc nx hB
  generalize s.st.length = len at *
  rcases hv with rfl | rfl
  all_goals
    simp only [Nat.reduceAdd, show ((1 : Nat) : Int) = 1 from rfl, show ((2 : Nat) : Int) = 2 from rfl] at d d1 d2 a0 e0 e1 f0 f1 r1 g1 E ⊢
    go_enter Tryd.func44, Tryd.ntmps44
    go_wp2
    go_end0
    exact E.out
theorem put_any {w : World} {B : Nat} {G : Tg} {x tb : Nat} {ps : Nat → Option Nat} {s : Vs} (hT : Tri w B G) (h : SvR w B G x tb ps s) (v : Nat) (hv : v = 1 ∨ v = 2) (hz : s.st.length ≤ 262144) (hB : B ≤ w.heap.size) :
    Calls Tryd.prog 44 #[.pointer (some ⟨x, 0, none⟩), .int .u8 (v : Int)] w fun e w' => PutE w B G x ps s v e w' := by
  cases hc : G (v :: s.st) with
  | none => exact put_new hT h v hv hz hB hc
  | some c => exact put_old hT h v c hv hz hc
end Go.Proofs.YtjbbbejadhojlaaDoor

namespace Go.Proofs.YtjbbbejadhojlaaDoor
open Go.RowKit
set_option linter.unusedVariables false
set_option linter.unusedSimpArgs false
theorem eqItems_all {P : Program} {w : World} {d e c : Nat} {xs ys : Array Value} (q : Nat → Bool) : ∀ (is : List Nat), (∀ i ∈ is, ∃ a b, (part e xs (i * c)).run P w = .ok a w ∧ (part e ys (i * c)).run P w = .ok b w ∧ (Op.equalIn d e a b).run P w = .ok (q i) w) → (Op.eqItems d e c xs ys is).run P w = .ok (is.all q) w
  | [], _ => by simp [Op.eqItems]
  | i :: is, h => by
    obtain ⟨a, b, h1, h2, h3⟩ := h i (by simp)
    have ih := eqItems_all (P := P) (w := w) q is (fun j hj => h j (by simp [hj]))
    simp only [Op.eqItems, Sem.run_bind, h1, h2, h3, Result.andThen_ok]
    cases hq : q i
    · simp [hq]
    · simp [hq, ih]
theorem part_one {P : Program} {w : World} {e : TypeId} {xs : Array Value} {o : Nat} {v : Value} (he : (isAgg e).run P w = .ok false w) (h : xs[o]? = some v) : (part e xs o).run P w = .ok v w := by
  simp [part, Sem.run_bind, he, h]
theorem eq_int {P : Program} {w : World} {d t : Nat} {k : IntKind} {a b : Int} (h : P.underlying t = some (.int k)) : (Op.equalIn (d + 1) t (.int k a) (.int k b)).run P w = .ok (a == b) w := by
  simp [Op.equalIn, Sem.run_bind, run_underlying h]
theorem eq_ptr {P : Program} {w : World} {d t te : Nat} {i : TypeInfo} (h : P.underlying t = some (.pointer te)) (hi : P.info? te = some i) (hz : P.cellsOf te ≠ 0) (p q : Option Nat) (hp : ∀ b, p = some b → ∃ c u, BkP w b c u) (hq : ∀ b, q = some b → ∃ c u, BkP w b c u) :
    (Op.equalIn (d + 1) t (ptN p) (ptN q)).run P w = .ok (decide (p = q)) w := by
  cases p with
  | none =>
    cases q with
    | none => simp [Op.equalIn, Sem.run_bind, run_underlying h, ptN]
    | some b => simp [Op.equalIn, Sem.run_bind, run_underlying h, ptN]
  | some a =>
    cases q with
    | none => simp [Op.equalIn, Sem.run_bind, run_underlying h, ptN]
    | some b =>
      simp only [Op.equalIn, Sem.run_bind, run_underlying h, ptN, Option.map_some, Result.andThen_ok, run_sizeOf w hi, ne_eq, hz, not_false_eq_true, if_true]
      by_cases e : a = b
      · subst e
        rw [run_sameAddr_same]
        simp
      · obtain ⟨c1, t1, k1⟩ := hp a rfl
        obtain ⟨c2, t2, k2⟩ := hq b rfl
        rw [run_sameAddr_other w (a := ⟨a, 0, none⟩) (b := ⟨b, 0, none⟩) (by intro q; injection q with q; exact e q) k1 k2]
        simp [e]
theorem bin_ptr {P : Program} {w : World} {t : Nat} {p q : Option Nat} {b : Bool} (h : (Op.equalIn 10000 t (ptN p) (ptN q)).run P w = .ok b w) : (binOp .eql t (ptN p) (ptN q)).run P w = .ok (.bool b) w := by
  unfold ptN at h ⊢
  cases p <;> cases q <;> simp [binOp, Op.equal, Op.maxDepth, Sem.run_bind] at h ⊢ <;> simp [h]
theorem all_range {n : Nat} {q : Nat → Bool} {p : Prop} [Decidable p] (h : (∀ i, i < n → q i = true) ↔ p) : (List.range n).all q = decide p := by
  rw [Bool.eq_iff_iff, List.all_eq_true, decide_eq_true_eq, ← h]
  exact ⟨fun z i hi => z i (List.mem_range.2 hi), fun z i hi => z i (List.mem_range.1 hi)⟩
theorem agg88 (w : World) : (isAgg 75).run Tryd.prog w = .ok false w := by
  simp [isAgg, Sem.run_bind, go_sem]
theorem eq_sorts (w : World) (x y z a b c : Nat) : (Op.equalIn 10000 95 (.agg #[.int .u8 (x : Int), .int .u8 (y : Int), .int .u8 (z : Int)]) (.agg #[.int .u8 (a : Int), .int .u8 (b : Int), .int .u8 (c : Int)])).run Tryd.prog w = .ok (decide ([x, y, z] = [a, b, c])) w := by
  have hu : Tryd.prog.underlying 95 = some (.array 3 75) := by kernel_rfl
  obtain ⟨i, hi⟩ := info_of_underlying (P := Tryd.prog) (t := 75) (d := .int .u8) (by kernel_rfl)
  have hc : Tryd.prog.cellsOf 75 = 1 := by kernel_rfl
  rw [run_equalIn_array w 9999 _ _ hu hi, hc]
  have A : (List.range 3).all (fun i => ([x, y, z].getD i 0 : Int) == ([a, b, c].getD i 0 : Int)) = decide ([x, y, z] = [a, b, c]) := by
    apply all_range
    constructor
    · intro h
      have h0 := h 0 (by omega)
      have h1 := h 1 (by omega)
      have h2 := h 2 (by omega)
      simp at h0 h1 h2
      simp only [List.cons.injEq, and_true]
      omega
    · intro h i hi
      rw [h]
      simp
  rw [← A]
  apply eqItems_all
  intro i hi
  have hi := List.mem_range.1 hi
  refine ⟨.int .u8 ([x, y, z].getD i 0 : Int), .int .u8 ([a, b, c].getD i 0 : Int), part_one (agg88 w) ?_, part_one (agg88 w) ?_, eq_int (by kernel_rfl)⟩
  · rcases (show i = 0 ∨ i = 1 ∨ i = 2 by omega) with rfl | rfl | rfl <;> rfl
  · rcases (show i = 0 ∨ i = 1 ∨ i = 2 by omega) with rfl | rfl | rfl <;> rfl
/-- The sixteen sheets of a set, as a value's cells. -/
def psV (ps : Nat → Option Nat) : Array Value := ((List.range 16).map (fun j => ptN (ps j))).toArray
theorem psV_at (ps : Nat → Option Nat) (j : Nat) (hj : j < 16) : (psV ps)[j]? = some (ptN (ps j)) := by
  unfold psV
  simp [hj]
theorem agg63 (w : World) : (isAgg 57).run Tryd.prog w = .ok false w := by
  simp [isAgg, Sem.run_bind, go_sem]
theorem eq_slots (w : World) (ps qs : Nat → Option Nat) (hp : ∀ j, j < 16 → ∀ b, ps j = some b → ∃ c u, BkP w b c u) (hq : ∀ j, j < 16 → ∀ b, qs j = some b → ∃ c u, BkP w b c u) :
    (Op.equalIn 10000 59 (.agg (psV ps)) (.agg (psV qs))).run Tryd.prog w = .ok ((List.range 16).all (fun j => decide (ps j = qs j))) w := by
  have hu : Tryd.prog.underlying 59 = some (.array 16 57) := by kernel_rfl
  have hs : Tryd.prog.underlying 57 = some (.pointer 132) := by kernel_rfl
  obtain ⟨i, hi⟩ := info_of_underlying hs
  obtain ⟨i2, hi2⟩ := info_of_underlying (P := Tryd.prog) (t := 132) (d := .array 16 130) (by kernel_rfl)
  have hc : Tryd.prog.cellsOf 57 = 1 := by kernel_rfl
  have hz : Tryd.prog.cellsOf 132 = 32 := by kernel_rfl
  rw [run_equalIn_array w 9999 _ _ hu hi, hc]
  apply eqItems_all
  intro i hi
  have hi := List.mem_range.1 hi
  exact ⟨ptN (ps i), ptN (qs i), part_one (agg63 w) (by rw [Nat.mul_one]; exact psV_at ps i hi), part_one (agg63 w) (by rw [Nat.mul_one]; exact psV_at qs i hi), eq_ptr hs hi2 (by rw [hz]; decide) _ _ (hp i hi) (hq i hi)⟩
theorem eq_page (w : World) (a b c d : Int) : (Op.equalIn 9999 130 (.agg #[.int .u64 a, .int .u64 b]) (.agg #[.int .u64 c, .int .u64 d])).run Tryd.prog w = .ok ((a == c) && (b == d)) w := by
  go_simp
  cases h1 : (a == c) <;> cases h2 : (b == d) <;> simp_all
theorem shA_ex (sh : Nat → Nat) (i : Nat) (hi : i < 16) : (shA sh).extract (i * 2) (i * 2 + 2) = #[.int .u64 ((sh (i * 2) : Nat) : Int), .int .u64 ((sh (i * 2 + 1) : Nat) : Int)] := by
  apply Array.ext
  · simp [shA]; omega
  · intro k h1 h2
    have hk : k < 2 := by simpa using h2
    rcases (show k = 0 ∨ k = 1 by omega) with rfl | rfl <;> simp [shA]
theorem agg140 (w : World) : (isAgg 130).run Tryd.prog w = .ok true w := by
  simp [isAgg, Sem.run_bind, go_sem]
theorem part_page {w : World} (sh : Nat → Nat) (i : Nat) (hi : i < 16) : (part 130 (shA sh) (i * 2)).run Tryd.prog w = .ok (.agg #[.int .u64 ((sh (i * 2) : Nat) : Int), .int .u64 ((sh (i * 2 + 1) : Nat) : Int)]) w := by
  obtain ⟨j, hj⟩ := info_of_underlying (P := Tryd.prog) (t := 130) Tryd.underlying130
  have hc : Tryd.prog.cellsOf 130 = 2 := by kernel_rfl
  simp only [part, Sem.run_bind, agg140 w, Result.andThen_ok, if_true, run_sizeOf w hj, hc, Sem.run_pure, shA_ex sh i hi]
theorem eq_sheet (w : World) (a b : Nat → Nat) : (Op.equalIn 10000 132 (.agg (shA a)) (.agg (shA b))).run Tryd.prog w = .ok ((List.range 16).all (fun j => ((a (j * 2) : Int) == (b (j * 2) : Int)) && ((a (j * 2 + 1) : Int) == (b (j * 2 + 1) : Int)))) w := by
  have hu : Tryd.prog.underlying 132 = some (.array 16 130) := by kernel_rfl
  obtain ⟨j, hj⟩ := info_of_underlying (P := Tryd.prog) (t := 130) Tryd.underlying130
  have hc : Tryd.prog.cellsOf 130 = 2 := by kernel_rfl
  rw [run_equalIn_array w 9999 _ _ hu hj, hc]
  apply eqItems_all
  intro i hi
  have hi := List.mem_range.1 hi
  exact ⟨_, _, part_page a i hi, part_page b i hi, eq_page w _ _ _ _⟩
theorem sheet_eq {a b : Nat → Nat} (h : (List.range 16).all (fun j => ((a (j * 2) : Int) == (b (j * 2) : Int)) && ((a (j * 2 + 1) : Int) == (b (j * 2 + 1) : Int))) = true) (k : Nat) (hk : k < 32) : a k = b k := by
  rw [List.all_eq_true] at h
  have := h (k / 2) (List.mem_range.2 (by omega))
  simp only [Bool.and_eq_true, beq_iff_eq] at this
  rcases (show k = k / 2 * 2 ∨ k = k / 2 * 2 + 1 by omega) with e | e
  · rw [e]; omega
  · rw [e]; omega
theorem slots_eq {ps qs : Nat → Option Nat} (h : (List.range 16).all (fun j => decide (ps j = qs j)) = true) (k : Nat) (hk : k < 16) : ps k = qs k := by
  rw [List.all_eq_true] at h
  exact of_decide_eq_true (h k (List.mem_range.2 hk))
end Go.Proofs.YtjbbbejadhojlaaDoor

namespace Go.Proofs.YtjbbbejadhojlaaDoor
open Go.RowKit
set_option linter.unusedVariables false
set_option linter.unusedSimpArgs false
/-- The rules, where the world holds them. -/
def Rul (w : World) : Prop := 0 < w.heap.size ∧ ∀ k : Nat, k < 29 → w.cell? ⟨0, k * 4, none⟩ = some (.int .u8 (((wtA k).getD 0 0 : Nat) : Int)) ∧ w.cell? ⟨0, k * 4 + 1, none⟩ = some (.int .u8 (((wtA k).getD 1 0 : Nat) : Int)) ∧ w.cell? ⟨0, k * 4 + 2, none⟩ = some (.int .u8 (((wtA k).getD 2 0 : Nat) : Int)) ∧ w.cell? ⟨0, k * 4 + 3, none⟩ = some (.int .u8 ((psA k : Nat) : Int))
theorem Rul.later {w w' : World} {n : Nat} (h : Rul w) (b : Below n w w') (hn : w.heap.size ≤ n) : Rul w' := by
  refine ⟨Nat.lt_of_lt_of_le h.1 b.size, fun k hk => ?_⟩
  have g : ∀ o, w'.cell? ⟨0, o, none⟩ = w.cell? ⟨0, o, none⟩ := fun o => b.cell (p := ⟨0, o, none⟩) (Nat.lt_of_lt_of_le h.1 hn)
  rw [g, g, g, g]
  exact h.2 k hk
theorem Rul.bel {B : Nat} {w w' : World} (h : Rul w) (b : Below B w w') (hb : 0 < B) : Rul w' := by
  refine ⟨Nat.lt_of_lt_of_le h.1 b.size, fun k hk => ?_⟩
  have g : ∀ o, w'.cell? ⟨0, o, none⟩ = w.cell? ⟨0, o, none⟩ := fun o => b.cell (p := ⟨0, o, none⟩) hb
  rw [g, g, g, g]
  exact h.2 k hk
theorem Rul.lat {w w' : World} (h : Rul w) (b : Below w.heap.size w w') : Rul w' := h.later b (Nat.le_refl _)
set_option maxRecDepth 100000 in
set_option maxHeartbeats 1000000 in
theorem takesAll_any {w : World} (hR : Rul w) (k : Nat) (hk : k < 29) (x y z : Nat) :
    Calls Tryd.prog 41 #[.int .i64 (k : Int), aggS [x, y, z]] w fun e w' => e = .returned (.bool (decide (wtA k = [x, y, z] ∨ wtA k = [3, 0, 0]))) ∧ Below w.heap.size w w' := by
  obtain ⟨c0, c1, c2, c3⟩ := (hR.lat (allocBP w (.cells #[.int .u8 (x : Int), .int .u8 (y : Int), .int .u8 (z : Int)] 95))).2 k hk
  have k0 : ¬ (k : Int) < 0 := by omega
  have k1 : (k : Int) < 29 := by omega
  have l3 := (wt_facts k hk).1
  obtain ⟨a, b, c, hw⟩ : ∃ a b c, wtA k = [a, b, c] := by
    match h : wtA k, l3 with
    | [a, b, c], _ => exact ⟨a, b, c, rfl⟩
  rw [hw] at c0 c1 c2 ⊢
  simp only [List.getD_cons_zero, List.getD_cons_succ] at c0 c1 c2
  clear hR l3 hw c3 hk
  have hs : ∀ u v t : Nat, aggS [u, v, t] = .agg #[.int .u8 (u : Int), .int .u8 (v : Int), .int .u8 (t : Int)] := fun _ _ _ => rfl
  rw [hs]
  clear hs
  have E1 := fun W => eq_sorts W a b c x y z
  have E2 := fun W => eq_sorts W a b c 3 0 0
  simp only [show ((3 : Nat) : Int) = 3 from rfl, show ((0 : Nat) : Int) = 0 from rfl] at E2
  by_cases e1 : [a, b, c] = [x, y, z]
  · have R := Lib.hid (p := decide ([a, b, c] = [x, y, z] ∨ [a, b, c] = [3, 0, 0]) = true) (decide_eq_true (.inl e1))
    rw [R.out]
    simp only [decide_eq_true e1] at E1
    clear R e1 E2
    go_enter Tryd.func41, Tryd.ntmps41
    go_wp2
    go_ret
    exact ⟨rfl, ((Below.refl _ _).alloc (Nat.le_refl _) _).alloc (by simp) _⟩
  · simp only [decide_eq_false e1] at E1
    by_cases e2 : [a, b, c] = [3, 0, 0]
    · have R := Lib.hid (p := decide ([a, b, c] = [x, y, z] ∨ [a, b, c] = [3, 0, 0]) = true) (decide_eq_true (.inr e2))
      rw [R.out]
      simp only [decide_eq_true e2] at E2
      clear R e1 e2
      go_enter Tryd.func41, Tryd.ntmps41
      go_wp2
      go_ret
      exact ⟨rfl, ((Below.refl _ _).alloc (Nat.le_refl _) _).alloc (by simp) _⟩
    · have R := Lib.hid (p := decide ([a, b, c] = [x, y, z] ∨ [a, b, c] = [3, 0, 0]) = false) (decide_eq_false (fun q => q.elim e1 e2))
      rw [R.out]
      simp only [decide_eq_false e2] at E2
      clear R e1 e2
      go_enter Tryd.func41, Tryd.ntmps41
      go_wp2
      go_ret
      exact ⟨rfl, ((Below.refl _ _).alloc (Nat.le_refl _) _).alloc (by simp) _⟩
end Go.Proofs.YtjbbbejadhojlaaDoor
