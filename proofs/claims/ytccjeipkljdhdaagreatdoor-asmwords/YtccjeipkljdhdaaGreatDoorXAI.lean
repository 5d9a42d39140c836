import Derived.Test.YtccjeipkljdhdaaGreatDoorXAE
import Derived.Test.YtccjeipkljdhdaaGreatDoorXAG
import Derived.Test.YtccjeipkljdhdaaGreatDoorXAH
import Derived.Test.YtccjeipkljdhdaaGreatDoorXAC
namespace Go.Proofs.YtccjeipkljdhdaaGreatDoor
open Go.RowKit
set_option linter.unusedVariables false
set_option linter.unusedSimpArgs false
def lnAL : List ByteArray := [⟨#[110, 97, 109, 101, 115]⟩, ⟨#[99, 117, 114, 115]⟩, ⟨#[112, 111, 111, 108]⟩, ⟨#[104, 111, 114, 105, 122, 111, 110]⟩, ⟨#[99, 101, 108, 108, 115]⟩, ⟨#[115, 108, 111, 116, 115]⟩, ⟨#[115, 116, 97, 99, 107]⟩, ⟨#[100, 97, 121]⟩]
/-- A line's first word. -/
def lnA (k : Nat) : ByteArray := lnAL.getD k ⟨#[]⟩
theorem ln_size : ∀ k, k < 8 → (lnA k).size ≤ 7 := by
  intro k hk
  match k, hk with
  | 0, _ => decide
  | 1, _ => decide
  | 2, _ => decide
  | 3, _ => decide
  | 4, _ => decide
  | 5, _ => decide
  | 6, _ => decide
  | 7, _ => decide
/-- The lines' words, where the program keeps them. -/
def LnG (w : World) : Prop := 2 < w.heap.size ∧ ∀ k, k < 8 → w.cell? ⟨2, k * 2, none⟩ = some (.string (lnA k))
theorem LnG.later {w w' : World} {B : Nat} (h : LnG w) (hB : w.heap.size ≤ B) (b : Below B w w') (hz : w.heap.size ≤ w'.heap.size) : LnG w' := ⟨Nat.lt_of_lt_of_le h.1 hz, fun k hk => (b.cell (p := ⟨2, k * 2, none⟩) (Nat.lt_of_lt_of_le h.1 hB)).trans (h.2 k hk)⟩
/-- What a list's line says. -/
def lnL (k : Nat) (ws : List ByteArray) : List UInt8 := if ws = [] then [] else (lnA k).data.toList ++ [32] ++ jnL ws ++ [10]
/-- What a number's line says. -/
def nmLn (k : Nat) (v : Int) : List UInt8 := jnL [lnA k, txA v] ++ [10]
set_option maxHeartbeats 2000000 in
set_option maxRecDepth 100000 in
theorem writeList_any {B b : Nat} {l : List UInt8} {w : World} (h : Bd B b l w) (hG : ∀ W, Below B w W → LnG W) (k : Nat) (hk : k < 3) {a : Option Addr} {n c : Nat} {ws : List ByteArray} (hw : WL B w a n ws) (hc : n ≤ c) (hz : l.length + (jnL ws).length + 100 ≤ 140737488355328) (hn : n ≤ 140737488355328) :
    Calls Tryz.prog 38 #[.pointer (some ⟨b, 0, none⟩), .int .i64 (k : Int), .slice a n c] w fun e w' => e = .returned (.tuple #[]) ∧ BdR B b (l ++ lnL k ws) w w' := by
  by_cases h0 : n = 0
  · subst h0
    have e0 : ws = [] := List.length_eq_zero_iff.1 hw.1
    subst e0
    have R0 := Lib.hid (BdR.start h)
    have el : l ++ lnL k [] = l := by simp [lnL]
    rw [el]
    clear h hG hw hz hn hc el
    go_enter Tryz.func38, Tryz.ntmps38
    go_wp2
    refine bodyPost_ret (results_none rfl _ _ _) rfl ?_
    exact ⟨rfl, R0.out⟩
  · have ne : ws ≠ [] := fun q => h0 (by rw [← hw.1, q]; rfl)
    have n0 : ((n : Int) == 0) = false := by simp; omega
    have n1 : ¬ (n : Int) = 0 := by omega
    have R0 := Lib.hid (BdR.start h)
    have g0 := (hG w (Below.refl _ _)).2 k (by omega)
    have ls := ln_size k (by omega)
    have lz : (lnA k).data.toList.length = (lnA k).size := Array.length_toList
    have KT := Lib.hid (bdText_any h (lnA k) (by omega) (by have := h.lt; omega))
    have KB := Lib.hid (fun W (q : Bd B b (l ++ (lnA k).data.toList) W) (z : B ≤ W.heap.size) => bdByte_any q 32 (by simp only [List.length_append, lz]; omega) z)
    have KW := Lib.hid (fun W (q : Bd B b (l ++ (lnA k).data.toList ++ [32]) W) (z : WL B W a n ws) => writeWords_any q z hc (by simp only [List.length_append, lz]; simp; omega) hn)
    have el : l ++ lnL k ws = l ++ (lnA k).data.toList ++ [32] ++ jnL ws ++ [10] := by unfold lnL; rw [if_neg ne]; simp
    have kc : (k : Int) < 8 := by omega
    rw [el]
    have HB := Lib.hid h
    have HW := Lib.hid hw
    clear h hG hw hz hn el ne ls lz h0
    generalize lnA k = nm at *
    go_enter Tryz.func38, Tryz.ntmps38
    go_wp2_with (first
      | (go_at_call 41; refine KT.out.mono ?_; rintro e w2 ⟨rfl, u2, b2, o2, z2⟩; have R2 := Lib.hid (R0.out.trans ⟨bd_of u2, b2, o2, z2⟩); clear u2 b2 o2 z2)
      | (go_at_call 72; refine (KB.out _ R2.out.bd R2.out.hB).mono ?_; rintro e w3 ⟨rfl, u2, b2, o2, z2⟩; have R3 := Lib.hid (R2.out.trans ⟨bd_of u2, b2, o2, z2⟩); clear u2 b2 o2 z2)
      | (go_at_call 42; refine (KW.out _ R3.out.bd (HW.out.keep HB.out R3.out)).mono ?_; rintro e w4 ⟨rfl, r4⟩; have R4 := Lib.hid (R3.out.trans r4); clear r4))
    go_end0
    exact ⟨rfl, R4.out⟩
theorem wl_lit2 {B : Nat} (W : World) (x y : ByteArray) : WL B (W.alloc (.cells #[.string x, .string y] 9)) (some ⟨W.heap.size, 0, none⟩) 2 [x, y] := by
  refine ⟨rfl, .inr ⟨W.heap.size, 0, rfl, by simp, .inr ⟨_, _, heapN W _⟩, fun j z hj => ?_⟩⟩
  rw [Nat.zero_add]
  match j, hj with
  | 0, hj => simp at hj; subst hj; simp
  | 1, hj => simp at hj; subst hj; simp
set_option maxHeartbeats 2000000 in
set_option maxRecDepth 100000 in
theorem writeNumber_any {B b : Nat} {l : List UInt8} {w : World} (h : Bd B b l w) (hG : LnG w) (hP : Pows w) (k : Nat) (hk : k < 8) (v : Int) (hv : i64 v) (hz : l.length + 100 ≤ 140737488355328) :
    Calls Tryz.prog 40 #[.pointer (some ⟨b, 0, none⟩), .int .i64 (k : Int), .int .i64 v] w fun e w' => e = .returned (.tuple #[]) ∧ BdR B b (l ++ nmLn k v) w w' := by
  have R0 := Lib.hid (BdR.start h)
  have g0 := hG.2 k hk
  have gl := Lib.hid hG.1
  have ls := ln_size k hk
  have ts := txA_len hv
  have kc : (k : Int) < 8 := by omega
  have jl : (jnL [lnA k, txA v]).length ≤ 30 := by
    have e1 : (lnA k).data.toList.length = (lnA k).size := Array.length_toList
    have e2 : (txA v).data.toList.length = (txA v).size := Array.length_toList
    unfold jnL
    simp only [List.map_cons, List.map_nil, Lib.join_cons, Lib.joinTail, List.flatten_cons, List.flatten_nil, List.length_append, List.append_nil, List.length_cons, List.length_nil, e1, e2]
    omega
  have KV := Lib.hid (fun W (b : Below w.heap.size w W) => valueText_any v hv W (hP.later b))
  have KW := Lib.hid (fun W (q : Bd B b l W) (a : Nat) (z : WL B W (some ⟨a, 0, none⟩) 2 [lnA k, txA v]) => writeWords_any q z (c := 2) (by omega) (by omega) (by omega))
  have el : l ++ nmLn k v = l ++ jnL [lnA k, txA v] ++ [10] := by unfold nmLn; simp
  have hB : B ≤ w.heap.size := by have := h.lt; omega
  rw [el]
  clear h hG hP hv hz ls ts jl el
  generalize hj : jnL [lnA k, txA v] = js at *
  clear hj
  generalize lnA k = nm at *
  generalize txA v = tv at *
  go_enter Tryz.func40, Tryz.ntmps40
  go_wp2
  go_region_law (first
    | (go_simp; go_at_call 53; refine (KV.out _ (Below.refl _ _).drew).mono ?_; rintro e w1 ⟨rfl, b1⟩; have B1 := Lib.hid (show Below w.heap.size w w1 from (Below.refl _ _).drew.trans b1); have R1 := Lib.hid (R0.out.later hB B1.out); have g1 := (B1.out.cell (p := ⟨2, k * 2, none⟩) gl.out).trans g0; clear b1)
    | (go_simp; go_at_call 42; refine (KW.out _ (R1.out.later R1.out.hB (allocBP w1 _)).bd _ (wl_lit2 w1 nm tv)).mono ?_; rintro e w2 ⟨rfl, r2⟩; have R2 := Lib.hid ((R1.out.later R1.out.hB (allocBP w1 _)).trans r2); clear r2))
  all_goals
    go_wp2
    go_end0
    exact ⟨rfl, R2.out⟩
/-- A row of texts of one's own. -/
def OwT13 (W : World) (B : Nat) (v : Value) (ws : List ByteArray) : Prop := W.ownsRow B 9 1 v ws.length (strsP ws)
theorem OwT13.wl {W : World} {B B' : Nat} {v : Value} {ws : List ByteArray} (h : OwT13 W B' v ws) : ∃ a c, v = .slice a ws.length c ∧ ws.length ≤ c ∧ WL B W a ws.length ws := by
  have hh : W.ownsRow B' 9 1 v ws.length (strsP ws) := h
  rcases hh.2 with ⟨rfl, q⟩ | ⟨g, cap, cur, rfl, h1, h2, h3, h4, _⟩
  · exact ⟨none, 0, by rw [q], by omega, rfl, .inl q⟩
  · refine ⟨_, _, rfl, h3, rfl, .inr ⟨g, 0, rfl, (Array.getElem?_eq_some_iff.1 h2).1, .inr ⟨_, _, h2⟩, fun j x hj => ?_⟩⟩
    have := hh.cells (g := g) rfl j (.string x) (by simp [strsP, hj])
    rw [Go.Addr.add_lit] at this
    exact this
set_option maxHeartbeats 2000000 in
set_option maxRecDepth 100000 in
theorem valueTexts_any {w : World} {a : Option Addr} {n c : Nat} {l : List Int} (h : NR w a n c l) (hn : n ≤ 1000000) (hP : Pows w) :
    Calls Tryz.prog 39 #[.slice a n c] w fun e w' => ∃ v, e = .returned v ∧ OwT13 w' w.heap.size v (l.map txA) ∧ Below w.heap.size w w' := by
  obtain ⟨iS, hiS, hziS0, hziS1, hziS2⟩ := info_parts infoPS
  obtain ⟨_, l1, b1, hi, r1⟩ := h
  have KV := Lib.hid (fun W (b : Below w.heap.size w W) (v : Int) (hv : i64 v) => valueText_any v hv W (hP.later b))
  have RR := Lib.hid r1
  have HI := Lib.hid hi
  have L1 := Lib.hid l1
  clear r1 hi hP l1
  go_enter Tryz.func39, Tryz.ntmps39
  go_wp2
  go_loopw [3, 8] (fun t u wr => ∃ (k : Nat) (v : Value), k ≤ n ∧ v = t ∧ u = .int .i64 (k : Int) ∧ OwT13 wr w.heap.size v ((l.take k).map txA) ∧ Below w.heap.size w wr) (fun t u _ => n - (intOf u).toNat)
  case atStart => exact ⟨0, _, by omega, rfl, rfl, World.ownsRow_nil _ _ _ _, Below.refl _ _⟩
  case round =>
    rename World => wr
    obtain ⟨k, v, hk, rfl, rfl, hO, hB⟩ := hrel
    have O := Lib.hid hO
    have BB := Lib.hid hB
    clear hO hB
    by_cases hlt : k < n
    · have kc : (k : Int) < (n : Int) := by omega
      have kl : k < l.length := by rw [L1.out]; exact hlt
      obtain ⟨x, o, rfl, hx⟩ : ∃ x o, a = some ⟨x, o, none⟩ ∧ ∀ W, Below w.heap.size w W → W.cell? ⟨x, o + k, none⟩ = some (.int .i64 (l.getD k 0)) := by
        rcases RR.out with q | ⟨b, o, e, h1, h2⟩
        · omega
        · refine ⟨b, o, e, fun W bb => ?_⟩
          have := h2 k hlt 0 (by omega)
          simp only [Nat.mul_one, Nat.add_zero, List.getD_cons_zero] at this
          exact (bb.cell (p := ⟨b, o + k, none⟩) h1).trans this
      have c0 := hx _ BB.out
      have hv : i64 (l.getD k 0) := HI.out _ (by simp [List.getD, kl])
      have KV1 := Lib.hid (fun W b => KV.out W b _ hv)
      have ST := Lib.hid (p := (l.take (k + 1)).map txA = (l.take k).map txA ++ [txA (l.getD k 0)]) (by
        rw [List.take_succ_eq_append_getElem kl, List.map_append]
        simp [List.getD, kl])
      have LT := Lib.hid (p := ((l.take k).map txA).length = k) (by simp; omega)
      generalize l.getD k 0 = z at *
      generalize txA z = tz at *
      generalize hp : (l.take k).map txA = pre at *
      have NB := Lib.hid (p := k + 1 ≤ maxLen ∧ (k + 1) * 16 ≤ 140737488355328) (by unfold maxLen; omega)
      clear hp hv hx kl
      have O1 := O.out
      unfold OwT13 at O1
      rw [LT.out] at O1
      have O1 := Lib.hid O1
      go_wp2_with (first
        | (go_at_call 53; refine (KV1.out _ BB.out).mono ?_; rintro e w1 ⟨rfl, b1⟩; have B1 := Lib.hid (BB.out.trans (b1.mono BB.out.size)); have O2 := Lib.hid (row_farP O1.out (gr_below b1 none) (fun k q e => by cases e)); clear b1)
        | (at_builtin; refine wpList_append_own_at _ rfl _ _ 23 rfl w.heap.size 9 iS _ 1 16 Tryz.underlying23 hiS hziS0 hziS1 hziS2 rfl (by decide) v k (strsP pre) rfl (O2.out.alloc _) ⟨w1.heap.size, 0, none⟩ 1 1 [.string tz] rfl rfl (cell_one_new w1 _ _) (by intro u hu; simp at hu; subst hu; rfl) NB.out.1 (by have := NB.out.2; omega) (Nat.le_trans B1.out.size (by simp)) ?_; intro v2 w2 k1 k2 k3 k4; have O3 := Lib.hid k1; have B2 := Lib.hid ((B1.out.alloc B1.out.size _).grown k2 (Nat.le_trans B1.out.size (by simp)) (fun k e => (O2.out.lt k e).1)); clear k1 k2 k3 k4))
      go_roundw
      case rel =>
        refine ⟨k + 1, _, by omega, rfl, by go_num, ?_, B2.out⟩
        rw [ST.out]
        unfold OwT13
        rw [List.length_append, LT.out]
        have e : strsP (pre ++ [tz]) = strsP pre ++ [.string tz] := by simp [strsP]
        rw [e]
        exact O3.out
      case measure => simp [intOf]; omega
    · obtain rfl : k = n := by omega
      have e : l.take l.length = l := List.take_length
      have O1 := O.out
      rw [← L1.out, e] at O1
      have O1 := Lib.hid O1
      clear O
      go_wp2
      go_ret
      exact ⟨_, rfl, O1.out, BB.out⟩
end Go.Proofs.YtccjeipkljdhdaaGreatDoor

namespace Go.Proofs.YtccjeipkljdhdaaGreatDoor
open Go.RowKit
set_option linter.unusedVariables false
set_option linter.unusedSimpArgs false

abbrev inC (i : In) : Obj := .cells #[.int .i64 i.o, .int .i64 i.a, .int .i64 i.b] 42
/-- The boxes of a program and an instruction. -/
structure PI (w W : World) (p : Pg) (i : In) : Prop where
  bel : Below w.heap.size w W
  p0 : BkP W w.heap.size p.arr 27
  i0 : BkP W (w.heap.size + 1) #[.int .i64 i.o, .int .i64 i.a, .int .i64 i.b] 42
theorem PI.later {w W W' : World} {p : Pg} {i : In} (h : PI w W p i) (b : Below W.heap.size W W') : PI w W' p i :=
  ⟨h.bel.trans (b.mono h.bel.size), h.p0.grown (gr_below b none) (fun e => by cases e), h.i0.grown (gr_below b none) (fun e => by cases e)⟩
theorem pi_start (w : World) (p : Pg) (i : In) : PI w ((w.alloc (.cells p.arr 27)).alloc (inC i)) p i := by
  have e1 : (w.alloc (.cells p.arr 27)).heap.size = w.heap.size + 1 := by simp
  refine ⟨alloc2 w _ _, (Below.heap_alloc _ _ _ (by simp)).trans (heapN w _), ?_⟩
  have := heapN (w.alloc (.cells p.arr 27)) (inC i)
  rwa [e1] at this
structure PI.cells (w W : World) (p : Pg) (i : In) : Prop where
  c0 : W.cell? ⟨w.heap.size, 0, none⟩ = some (.slice p.na p.names.length p.nc)
  c1 : W.cell? ⟨w.heap.size, 1, none⟩ = some (.slice p.ua p.curs.length p.uc)
  c2 : W.cell? ⟨w.heap.size, 2, none⟩ = some (.slice p.pa p.pool.length p.pc)
  c3 : W.cell? ⟨w.heap.size, 3, none⟩ = some (.int .i64 p.hor)
  c4 : W.cell? ⟨w.heap.size, 4, none⟩ = some (.int .i64 p.cells)
  c5 : W.cell? ⟨w.heap.size, 5, none⟩ = some (.int .i64 p.slots)
  c6 : W.cell? ⟨w.heap.size, 6, none⟩ = some (.int .i64 p.stack)
  c7 : W.cell? ⟨w.heap.size, 7, none⟩ = some (.slice p.da p.days.length p.dc)
  d0 : W.cell? ⟨w.heap.size + 1, 0, none⟩ = some (.int .i64 i.o)
  d1 : W.cell? ⟨w.heap.size + 1, 1, none⟩ = some (.int .i64 i.a)
  d2 : W.cell? ⟨w.heap.size + 1, 2, none⟩ = some (.int .i64 i.b)
theorem PI.get {w W : World} {p : Pg} {i : In} (h : PI w W p i) : PI.cells w W p i :=
  ⟨h.p0.cell 0, h.p0.cell 1, h.p0.cell 2, h.p0.cell 3, h.p0.cell 4, h.p0.cell 5, h.p0.cell 6, h.p0.cell 7, h.i0.cell 0, h.i0.cell 1, h.i0.cell 2⟩
theorem i64_nat {k : Nat} (h : k ≤ 1000000) : i64 (k : Int) := by
  unfold i64
  simp [Lit.wf, IntKind.min, IntKind.max, IntKind.bits, IntKind.signed]; omega
theorem pool_i64 {w : World} {p : Pg} (h : PV w p) (k : Nat) : i64 (p.pool.getD k 0) := by
  by_cases hk : k < p.pool.length
  · have := h.pool.2.2.2.1 (p.pool.getD k 0) (by simp [List.getD, hk])
    exact this
  · rw [show p.pool.getD k 0 = 0 by simp [List.getD, List.getElem?_eq_none (show p.pool.length ≤ k by omega)]]
    exact i64_nat (k := 0) (by omega)
set_option maxRecDepth 100000 in
set_option maxHeartbeats 4000000 in
theorem operandText_any {w : World} {p : Pg} (h : PV w p) (i : In) (hi : i.okP) (hP : Pows w) (hM : Mds w) :
    Calls Tryz.prog 52 #[p.agg, .agg #[.int .i64 i.o, .int .i64 i.a, .int .i64 i.b]] w fun e w' => e = .returned (.tuple #[.string (fstW p.names p.curs p.pool i), .bool (fstB p.names p.curs p.pool i)]) ∧ Below w.heap.size w w' := by
  obtain ⟨h1, h2, h3, h4, h5, h6⟩ := hi
  obtain ⟨o, a, b⟩ := i
  simp only at h1 h2 h3 h4 h5 h6
  obtain ⟨x, rfl⟩ : ∃ x : Nat, a = x := ⟨a.toNat, by omega⟩
  have hx : x ≤ 262143 := by have := (tab_facts o.toNat (by omega)).2.1; omega
  have X0 := pi_start w p ⟨o, x, b⟩
  obtain ⟨c0, c1, c2, c3, c4, c5, c6, c7, d0, d1, d2⟩ := X0.get
  have B0 := Lib.hid X0.bel
  have KI := Lib.hid (fun W (b : Below w.heap.size w W) => atI_any (h.pool.later b) x)
  have KN := Lib.hid (fun W (b : Below w.heap.size w W) => atS_any (h.names.later b) x)
  have KU := Lib.hid (fun W (b : Below w.heap.size w W) => atS_any (h.curs.later b) x)
  have KV := Lib.hid (fun W (b : Below w.heap.size w W) => valueText_any (p.pool.getD x 0) (pool_i64 h x) W (hP.later b))
  have KA := Lib.hid (fun W (b : Below w.heap.size w W) => valueText_any (x : Int) (i64_nat (by omega)) W (hP.later b))
  have MM := Lib.hid (fun W (b : Below w.heap.size w W) => hM.later b)
  unfold inC at *
  unfold Pg.arr at *
  unfold Pg.agg
  unfold fstW fstB
  simp only [Int.toNat_natCast] at *
  clear X0 h hP hM h3 h5 h6
  generalize hW0 : (w.alloc _).alloc _ = W0 at *
  by_cases e1 : o = 1
  · subst e1
    simp only [if_true]
    clear KN KU KA MM
    generalize p.pool.getD x 0 = v at *
    generalize decide ((x : Int) < (p.pool.length : Int)) = z at *
    go_enter Tryz.func52, Tryz.ntmps52
    go_wp2_with (first
      | (go_at_call 83; refine (KI.out _ B0.out).mono ?_; rintro e w1 ⟨rfl, rfl⟩)
      | (go_at_call 53; refine (KV.out _ B0.out).mono ?_; rintro e w2 ⟨rfl, b2⟩; have B2 := Lib.hid (B0.out.trans (b2.mono B0.out.size)); clear b2))
    go_ret2
    exact ⟨rfl, B2.out⟩
  · by_cases e2 : o = 3
    · subst e2
      simp only [show ¬ (3 : Int) = 1 by decide, if_true, if_false]
      clear KI KU KA KV MM
      generalize p.names.getD x ⟨#[]⟩ = v at *
      generalize decide ((x : Int) < (p.names.length : Int)) = z at *
      go_enter Tryz.func52, Tryz.ntmps52
      go_wp2_with (first
        | (go_at_call 84; refine (KN.out _ B0.out).mono ?_; rintro e w1 ⟨rfl, rfl⟩))
      go_ret2
      exact ⟨rfl, B0.out⟩
    · by_cases e3 : o = 28
      · subst e3
        simp only [show ¬ (28 : Int) = 1 by decide, show ¬ (28 : Int) = 3 by decide, if_true, if_false]
        clear KI KN KA KV MM
        generalize p.curs.getD x ⟨#[]⟩ = v at *
        generalize decide ((x : Int) < (p.curs.length : Int)) = z at *
        go_enter Tryz.func52, Tryz.ntmps52
        go_wp2_with (first
          | (go_at_call 84; refine (KU.out _ B0.out).mono ?_; rintro e w1 ⟨rfl, rfl⟩))
        go_ret2
        exact ⟨rfl, B0.out⟩
      · by_cases e4 : o = 18
        · subst e4
          simp only [show ¬ (18 : Int) = 1 by decide, show ¬ (18 : Int) = 3 by decide, show ¬ (18 : Int) = 28 by decide, if_true, if_false]
          have hx5 : x < 5 := by have : baA (18 : Int).toNat = 4 := rfl; omega
          have m0 := (MM.out _ B0.out).2 x hx5
          have q1 : (x : Int) < 5 := by omega
          clear KI KN KU KA KV MM
          generalize mdA x = v at *
          go_enter Tryz.func52, Tryz.ntmps52
          go_wp2
          go_ret2
          exact ⟨rfl, B0.out⟩
        · simp only [if_neg e1, if_neg e2, if_neg e3, if_neg e4]
          clear KI KN KU KV MM
          have f1 : (o == 1) = false := by simpa using e1
          have f2 : (o == 3) = false := by simpa using e2
          have f3 : (o == 28) = false := by simpa using e3
          have f4 : (o == 18) = false := by simpa using e4
          go_enter Tryz.func52, Tryz.ntmps52
          go_wp2_with (first
            | (go_at_call 53; refine (KA.out _ B0.out).mono ?_; rintro e w2 ⟨rfl, b2⟩; have B2 := Lib.hid (B0.out.trans (b2.mono B0.out.size)); clear b2))
          go_ret2
          exact ⟨rfl, B2.out⟩
end Go.Proofs.YtccjeipkljdhdaaGreatDoor

namespace Go.Proofs.YtccjeipkljdhdaaGreatDoor
open Go.RowKit
set_option linter.unusedVariables false
set_option linter.unusedSimpArgs false
/-- Three texts in a row of their own. -/
def Tx3 (W : World) (g : Nat) (a b c : ByteArray) : Prop := g < W.heap.size ∧ W.cell? ⟨g, 0, none⟩ = some (.string a) ∧ W.cell? ⟨g, 1, none⟩ = some (.string b) ∧ W.cell? ⟨g, 2, none⟩ = some (.string c)
set_option maxRecDepth 100000 in
set_option maxHeartbeats 4000000 in
theorem instrWords_any {w : World} {p : Pg} (h : PV w p) (i : In) (hi : i.okP) (hR : Rws w) (hP : Pows w) (hM : Mds w) :
    Calls Tryz.prog 24 #[p.agg, .agg #[.int .i64 i.o, .int .i64 i.a, .int .i64 i.b]] w fun e w' => ∃ g, e = .returned (.tuple #[.slice (some ⟨g, 0, none⟩) (1 + onA i.o.toNat) 3, .bool (fstB p.names p.curs p.pool i)]) ∧ Tx3 w' g (nmA i.o.toNat) (fstW p.names p.curs p.pool i) (txA i.b) ∧ Below w.heap.size w w' := by
  have hi' := hi
  obtain ⟨h1, h2, h3, h4, h5, h6⟩ := hi
  obtain ⟨o, a, b⟩ := i
  simp only at h1 h2 h3 h4 h5 h6 hi'
  obtain ⟨k, rfl⟩ : ∃ x : Nat, o = x := ⟨o.toNat, by omega⟩
  have hk : k < 29 := by omega
  have tf := tab_facts k hk
  have hb : i64 b := by
    obtain ⟨y, rfl⟩ : ∃ x : Nat, b = x := ⟨b.toNat, by omega⟩
    refine i64_nat ?_
    simp only [Int.toNat_natCast] at h6
    omega
  have RE : RowE (k : Int) (nmA k) (onA k) (tkA k) (ptA k) (baA k) (bbA k) 0 := ⟨.inl ⟨k, hk, rfl, rfl, rfl, rfl, rfl, rfl, rfl, rfl⟩⟩
  have X0 := pi_start w p ⟨(k : Int), a, b⟩
  obtain ⟨c0, c1, c2, c3, c4, c5, c6, c7, d0, d1, d2⟩ := X0.get
  have X := Lib.hid X0
  have KN := Lib.hid (fun W (b : Below w.heap.size w W) => name_any RE W (hR.below b))
  have KO := Lib.hid (fun W (b : Below w.heap.size w W) => operands_any RE W (hR.below b))
  have KT := Lib.hid (fun W (b : Below w.heap.size w W) => operandText_any (h.later b) _ hi' (hP.later b) (hM.later b))
  have KV := Lib.hid (fun W (q : Below w.heap.size w W) => valueText_any b hb W (hP.later q))
  have on2 := tf.1
  unfold inC at *
  unfold Pg.arr at *
  unfold Pg.agg at *
  simp only [Int.toNat_natCast] at *
  clear h h3 h4 h5 h6 hi' hb RE tf hR hP hM X0 h1 h2
  generalize fstW p.names p.curs p.pool ⟨(k : Int), a, b⟩ = fw at *
  generalize fstB p.names p.curs p.pool ⟨(k : Int), a, b⟩ = fb at *
  generalize nmA k = nm at *
  generalize txA b = tb at *
  generalize onA k = on at *
  have wo : IntKind.i64.wrap (1 + (on : Int)) = ((1 + on : Nat) : Int) := by simp [IntKind.wrap, IntKind.bits, IntKind.signed]; omega
  have wo3 : (1 + on : Nat) ≤ 3 := by omega
  generalize hW0 : (w.alloc _).alloc _ = W0 at *
  go_enter Tryz.func24, Tryz.ntmps24
  go_wp2_with (first
    | (go_at_call 50; refine (KN.out _ X.out.bel).mono ?_; rintro e w1 ⟨rfl, b1⟩; have X1 := Lib.hid (X.out.later b1); clear b1 c0 c1 c2 c3 c4 c5 c6 c7 d0 d1 d2; obtain ⟨c0, c1, c2, c3, c4, c5, c6, c7, d0, d1, d2⟩ := X1.out.get; simp only at c0 c1 c2 c3 c4 c5 c6 c7 d0 d1 d2)
    | (go_at_call 51; refine (KO.out _ X1.out.bel).mono ?_; rintro e w2 ⟨rfl, b1⟩; have X2 := Lib.hid (X1.out.later b1); clear b1 c0 c1 c2 c3 c4 c5 c6 c7 d0 d1 d2; obtain ⟨c0, c1, c2, c3, c4, c5, c6, c7, d0, d1, d2⟩ := X2.out.get; simp only at c0 c1 c2 c3 c4 c5 c6 c7 d0 d1 d2)
    | (go_at_call 52; refine (KT.out _ X2.out.bel).mono ?_; rintro e w3 ⟨rfl, b1⟩; have X3 := Lib.hid (X2.out.later b1); clear b1 c0 c1 c2 c3 c4 c5 c6 c7 d0 d1 d2; obtain ⟨c0, c1, c2, c3, c4, c5, c6, c7, d0, d1, d2⟩ := X3.out.get; simp only at c0 c1 c2 c3 c4 c5 c6 c7 d0 d1 d2)
    | (go_at_call 53; refine (KV.out _ X3.out.bel).mono ?_; rintro e w4 ⟨rfl, b1⟩; have X4 := Lib.hid (X3.out.later b1); clear b1))
  go_ret2
  refine ⟨_, rfl, ⟨by simp, ?_, ?_, ?_⟩, X4.out.bel.alloc X4.out.bel.size _⟩ <;> simp
theorem tx3_cells {W : World} {g : Nat} {a b c : ByteArray} (h : Tx3 W g a b c) (n : Nat) : ∀ (j : Nat) x, ([a, b, c].take n)[j]? = some x → W.cell? ⟨g, 0 + j, none⟩ = some (.string x) := by
  intro j x hj
  have hj' : [a, b, c][j]? = some x := by
    rw [List.getElem?_take] at hj
    split at hj
    · exact hj
    · cases hj
  rw [Nat.zero_add]
  match j, hj' with
  | 0, hj => simp at hj; subst hj; exact h.2.1
  | 1, hj => simp at hj; subst hj; exact h.2.2.1
  | 2, hj => simp at hj; subst hj; exact h.2.2.2
theorem join_size (a b c : ByteArray) (n : Nat) (hn : 1 ≤ n ∧ n ≤ 3) (h : a.size + b.size + c.size ≤ 140737488355000) : (Lib.join (([a, b, c].take n).map (·.data.toList)) [32]).length ≤ 140737488355328 := by
  have la : a.data.toList.length = a.size := Array.length_toList
  have lb : b.data.toList.length = b.size := Array.length_toList
  have lc : c.data.toList.length = c.size := Array.length_toList
  match n, hn with
  | 1, _ => simp [Lib.join_cons, Lib.joinTail]; omega
  | 2, _ => simp [Lib.join_cons, Lib.joinTail]; omega
  | 3, _ => simp [Lib.join_cons, Lib.joinTail]; omega
theorem fst_size {w : World} {p : Pg} (h : PV w p) (i : In) (hi : i.okP) : (fstW p.names p.curs p.pool i).size ≤ 140737488351232 := by
  obtain ⟨h1, h2, h3, h4, h5, h6⟩ := hi
  have hx : i.a ≤ 262143 := by have := (tab_facts i.o.toNat (by omega)).2.1; omega
  have gs : ∀ (l : List ByteArray) (k : Nat), (∀ s ∈ l, s.size ≤ 140737488351232) → (l.getD k ⟨#[]⟩).size ≤ 140737488351232 := fun l k hl => by
    by_cases hk : k < l.length
    · exact hl _ (by simp [List.getD, hk])
    · rw [show l.getD k ⟨#[]⟩ = ⟨#[]⟩ by simp [List.getD, List.getElem?_eq_none (show l.length ≤ k by omega)]]; decide
  unfold fstW
  split
  · have := txA_len (pool_i64 h i.a.toNat); omega
  split
  · exact gs _ _ h.names.2.2.2.1
  split
  · exact gs _ _ h.curs.2.2.2.1
  split
  · rename_i e
    rw [e] at h4
    have : baA (18 : Int).toNat = 4 := rfl
    have := md_some i.a.toNat (by omega)
    omega
  · obtain ⟨x, hx'⟩ : ∃ x : Nat, i.a = x := ⟨i.a.toNat, by omega⟩
    rw [hx']
    have := txA_len (i64_nat (k := x) (by omega)); omega
set_option maxRecDepth 100000 in
set_option maxHeartbeats 4000000 in
theorem printInstr_any {w : World} {p : Pg} (h : PV w p) (i : In) (hR : Rws w) (hP : Pows w) (hM : Mds w) :
    Calls Tryz.prog 12 #[p.agg, .agg #[.int .i64 i.o, .int .i64 i.a, .int .i64 i.b]] w fun e w' => e = .returned (.tuple #[.string (prT p.names p.curs p.pool i), .int .i64 (prE p.names p.curs p.pool i)]) ∧ Below w.heap.size w w' := by
  have X0 := pi_start w p i
  obtain ⟨c0, c1, c2, c3, c4, c5, c6, c7, d0, d1, d2⟩ := X0.get
  have X := Lib.hid X0
  have KV := Lib.hid (fun W (b : Below w.heap.size w W) => valid_any i.o i.a i.b W (hR.below b))
  unfold prT prE
  by_cases hi : i.okP
  · have ov : okV ⟨i.o, i.a, i.b⟩ = 0 := okV_pos hi
    rw [ov] at KV
    simp only [if_pos hi]
    have KW := Lib.hid (fun W (b : Below w.heap.size w W) => instrWords_any (h.later b) i hi (hR.below b) (hP.later b) (hM.later b))
    have on2 := (tab_facts i.o.toNat (by have := hi.1; have := hi.2.1; omega)).1
    have hbb := (tab_facts i.o.toNat (by have := hi.1; have := hi.2.1; omega)).2.2.1
    have JL := Lib.hid (join_size (nmA i.o.toNat) (fstW p.names p.curs p.pool i) (txA i.b) (1 + onA i.o.toNat) (by omega) (by
      have e1 := nm_size i.o.toNat (by have := hi.1; have := hi.2.1; omega)
      have e2 := fst_size h i hi
      have e3 : (txA i.b).size ≤ 21 := by
        obtain ⟨y, hy⟩ : ∃ x : Nat, i.b = x := ⟨i.b.toNat, by have := hi.2.2.2.2.1; omega⟩
        rw [hy]
        exact txA_len (i64_nat (by have := hi.2.2.2.2.2; omega))
      omega))
    have WD : wdsA p.names p.curs p.pool i = [nmA i.o.toNat, fstW p.names p.curs p.pool i, txA i.b].take (1 + onA i.o.toNat) := rfl
    rw [WD]
    clear h hP hM hi ov WD hR hbb
    generalize fstW p.names p.curs p.pool i = fw at *
    generalize fstB p.names p.curs p.pool i = fb at *
    generalize nmA i.o.toNat = nm at *
    generalize txA i.b = tb at *
    generalize onA i.o.toNat = on at *
    obtain ⟨o, a, b⟩ := i
    unfold inC at *
    unfold Pg.arr at *
    unfold Pg.agg at *
    simp only at *
    have ln : ([nm, fw, tb].take (1 + on)).length = 1 + on := by simp; omega
    have JN := Lib.hid (fun W (g : Nat) (t : Tx3 W g nm fw tb) => Tryz.strings_Join g 0 3 ([nm, fw, tb].take (1 + on)) ⟨#[32]⟩ W (tx3_cells t _) t.1 (by rw [ln]; omega) (by rw [ln]; omega) JL.out)
    rw [ln] at JN
    unfold jnA
    generalize hJ : (Lib.join (([nm, fw, tb].take (1 + on)).map (·.data.toList)) [32]) = js at *
    have JN2 := Lib.hid (fun W (g : Nat) (t : Tx3 W g nm fw tb) => (JN.out W g t : Calls Tryz.prog 25 #[.slice (some ⟨g, 0, none⟩) (1 + on) 3, .string ⟨#[32]⟩] W fun e w' => e = .returned (.string ⟨js.toArray⟩) ∧ Below W.heap.size W w'))
    clear JN JL hJ ln on2
    generalize hW0 : (w.alloc _).alloc _ = W0 at *
    cases fb with
    | false =>
      go_enter Tryz.func12, Tryz.ntmps12
      go_wp2_with (first
        | (go_at_call 23; refine (KV.out _ X.out.bel).mono ?_; rintro e w1 ⟨rfl, b1⟩; have X1 := Lib.hid (X.out.later b1); clear b1 c0 c1 c2 c3 c4 c5 c6 c7 d0 d1 d2; obtain ⟨c0, c1, c2, c3, c4, c5, c6, c7, d0, d1, d2⟩ := X1.out.get; simp only at c0 c1 c2 c3 c4 c5 c6 c7 d0 d1 d2)
        | (go_at_call 24; refine (KW.out _ X1.out.bel).mono ?_; rintro e w2 ⟨g, rfl, t2, b1⟩; have X2 := Lib.hid (X1.out.later b1); clear b1))
      go_ret2
      exact ⟨rfl, X2.out.bel⟩
    | true =>
      go_enter Tryz.func12, Tryz.ntmps12
      go_wp2_with (first
        | (go_at_call 23; refine (KV.out _ X.out.bel).mono ?_; rintro e w1 ⟨rfl, b1⟩; have X1 := Lib.hid (X.out.later b1); clear b1 c0 c1 c2 c3 c4 c5 c6 c7 d0 d1 d2; obtain ⟨c0, c1, c2, c3, c4, c5, c6, c7, d0, d1, d2⟩ := X1.out.get; simp only at c0 c1 c2 c3 c4 c5 c6 c7 d0 d1 d2)
        | (go_at_call 24; refine (KW.out _ X1.out.bel).mono ?_; rintro e w2 ⟨g, rfl, t2, b1⟩; have X2 := Lib.hid (X1.out.later b1); have T2 := Lib.hid t2; clear b1 t2)
        | (go_at_call 25; refine (JN2.out _ _ T2.out).mono ?_; rintro e w3 ⟨rfl, b1⟩; have X3 := Lib.hid (X2.out.later b1); clear b1))
      go_ret2
      exact ⟨rfl, X3.out.bel⟩
  · have ov : okV ⟨i.o, i.a, i.b⟩ = 111 := okV_neg hi
    rw [ov] at KV
    simp only [if_neg hi]
    clear h hP hM hi ov hR
    obtain ⟨o, a, b⟩ := i
    unfold inC at *
    unfold Pg.arr at *
    unfold Pg.agg at *
    simp only at *
    generalize hW0 : (w.alloc _).alloc _ = W0 at *
    go_enter Tryz.func12, Tryz.ntmps12
    go_wp2_with (first
      | (go_at_call 23; refine (KV.out _ X.out.bel).mono ?_; rintro e w1 ⟨rfl, b1⟩; have X1 := Lib.hid (X.out.later b1); clear b1))
    go_ret2
    exact ⟨rfl, X1.out.bel⟩
end Go.Proofs.YtccjeipkljdhdaaGreatDoor

namespace Go.Proofs.YtccjeipkljdhdaaGreatDoor
open Go.RowKit
set_option linter.unusedVariables false
set_option linter.unusedSimpArgs false
theorem wl_lit3 {B : Nat} (W : World) (x y z : ByteArray) (n : Nat) (hn : n ≤ 2) : WL B (W.alloc (.cells #[.string x, .string y, .string z] 9)) (some ⟨W.heap.size, 0, none⟩) (1 + n) ([x, y, z].take (1 + n)) := by
  refine ⟨by simp; omega, .inr ⟨W.heap.size, 0, rfl, by simp, .inr ⟨_, _, heapN W _⟩, fun j u hj => ?_⟩⟩
  have hj' : [x, y, z][j]? = some u := by
    rw [List.getElem?_take] at hj
    split at hj
    · exact hj
    · cases hj
  rw [Nat.zero_add]
  match j, hj' with
  | 0, hj => simp at hj; subst hj; simp
  | 1, hj => simp at hj; subst hj; simp
  | 2, hj => simp at hj; subst hj; simp
set_option maxRecDepth 100000 in
set_option maxHeartbeats 4000000 in
theorem instrWords2_any {w : World} {p : Pg} (B : Nat) (h : PV w p) (i : In) (hi : i.okP) (hR : Rws w) (hP : Pows w) (hM : Mds w) :
    Calls Tryz.prog 24 #[p.agg, .agg #[.int .i64 i.o, .int .i64 i.a, .int .i64 i.b]] w fun e w' => ∃ g, e = .returned (.tuple #[.slice (some ⟨g, 0, none⟩) (1 + onA i.o.toNat) 3, .bool (fstB p.names p.curs p.pool i)]) ∧ WL B w' (some ⟨g, 0, none⟩) (1 + onA i.o.toNat) (wdsA p.names p.curs p.pool i) ∧ Below w.heap.size w w' := by
  have hi' := hi
  obtain ⟨h1, h2, h3, h4, h5, h6⟩ := hi
  obtain ⟨o, a, b⟩ := i
  simp only at h1 h2 h3 h4 h5 h6 hi'
  obtain ⟨k, rfl⟩ : ∃ x : Nat, o = x := ⟨o.toNat, by omega⟩
  have hk : k < 29 := by omega
  have tf := tab_facts k hk
  have hb : i64 b := by
    obtain ⟨y, rfl⟩ : ∃ x : Nat, b = x := ⟨b.toNat, by omega⟩
    refine i64_nat ?_
    simp only [Int.toNat_natCast] at h6
    omega
  have RE : RowE (k : Int) (nmA k) (onA k) (tkA k) (ptA k) (baA k) (bbA k) 0 := ⟨.inl ⟨k, hk, rfl, rfl, rfl, rfl, rfl, rfl, rfl, rfl⟩⟩
  have X0 := pi_start w p ⟨(k : Int), a, b⟩
  obtain ⟨c0, c1, c2, c3, c4, c5, c6, c7, d0, d1, d2⟩ := X0.get
  have X := Lib.hid X0
  have KN := Lib.hid (fun W (b : Below w.heap.size w W) => name_any RE W (hR.below b))
  have KO := Lib.hid (fun W (b : Below w.heap.size w W) => operands_any RE W (hR.below b))
  have KT := Lib.hid (fun W (b : Below w.heap.size w W) => operandText_any (h.later b) _ hi' (hP.later b) (hM.later b))
  have KV := Lib.hid (fun W (q : Below w.heap.size w W) => valueText_any b hb W (hP.later q))
  have on2 := tf.1
  unfold inC at *
  unfold Pg.arr at *
  unfold Pg.agg at *
  simp only [Int.toNat_natCast] at *
  clear h h3 h4 h5 h6 hi' hb RE tf hR hP hM X0 h1 h2
  have WD : wdsA p.names p.curs p.pool ⟨(k : Int), a, b⟩ = [nmA k, fstW p.names p.curs p.pool ⟨(k : Int), a, b⟩, txA b].take (1 + onA k) := rfl
  rw [WD]
  clear WD
  generalize fstW p.names p.curs p.pool ⟨(k : Int), a, b⟩ = fw at *
  generalize fstB p.names p.curs p.pool ⟨(k : Int), a, b⟩ = fb at *
  generalize nmA k = nm at *
  generalize txA b = tb at *
  generalize onA k = on at *
  have wo : IntKind.i64.wrap (1 + (on : Int)) = ((1 + on : Nat) : Int) := by simp [IntKind.wrap, IntKind.bits, IntKind.signed]; omega
  have wo3 : (1 + on : Nat) ≤ 3 := by omega
  have WQ := Lib.hid (p := ∀ W0 : World, WL B (W0.alloc (.cells #[.string nm, .string fw, .string tb] 9)) (some ⟨W0.heap.size, 0, none⟩) (1 + on) ([nm, fw, tb].take (1 + on))) (fun W0 => wl_lit3 W0 nm fw tb on on2)
  generalize hW0 : (w.alloc _).alloc _ = W0 at *
  go_enter Tryz.func24, Tryz.ntmps24
  go_wp2_with (first
    | (go_at_call 50; refine (KN.out _ X.out.bel).mono ?_; rintro e w1 ⟨rfl, b1⟩; have X1 := Lib.hid (X.out.later b1); clear b1 c0 c1 c2 c3 c4 c5 c6 c7 d0 d1 d2; obtain ⟨c0, c1, c2, c3, c4, c5, c6, c7, d0, d1, d2⟩ := X1.out.get; simp only at c0 c1 c2 c3 c4 c5 c6 c7 d0 d1 d2)
    | (go_at_call 51; refine (KO.out _ X1.out.bel).mono ?_; rintro e w2 ⟨rfl, b1⟩; have X2 := Lib.hid (X1.out.later b1); clear b1 c0 c1 c2 c3 c4 c5 c6 c7 d0 d1 d2; obtain ⟨c0, c1, c2, c3, c4, c5, c6, c7, d0, d1, d2⟩ := X2.out.get; simp only at c0 c1 c2 c3 c4 c5 c6 c7 d0 d1 d2)
    | (go_at_call 52; refine (KT.out _ X2.out.bel).mono ?_; rintro e w3 ⟨rfl, b1⟩; have X3 := Lib.hid (X2.out.later b1); clear b1 c0 c1 c2 c3 c4 c5 c6 c7 d0 d1 d2; obtain ⟨c0, c1, c2, c3, c4, c5, c6, c7, d0, d1, d2⟩ := X3.out.get; simp only at c0 c1 c2 c3 c4 c5 c6 c7 d0 d1 d2)
    | (go_at_call 53; refine (KV.out _ X3.out.bel).mono ?_; rintro e w4 ⟨rfl, b1⟩; have X4 := Lib.hid (X3.out.later b1); clear b1))
  go_ret2
  exact ⟨_, rfl, WQ.out _, X4.out.bel.alloc X4.out.bel.size _⟩
/-- What an instruction's line says. -/
def inLn (p : Pg) (i : In) : List UInt8 := [32, 32] ++ jnL (wdsA p.names p.curs p.pool i) ++ [10]
/-- What a day's lines say. -/
def dyLn (p : Pg) (s : Sg) : List UInt8 := nmLn 7 s.day ++ s.code.flatMap (inLn p)
/-- What the lines ahead of the days say. -/
def hdT (p : Pg) : List UInt8 := lnL 0 p.names ++ lnL 1 p.curs ++ lnL 2 (p.pool.map txA) ++ nmLn 3 p.hor ++ nmLn 4 p.cells ++ nmLn 5 p.slots ++ nmLn 6 p.stack
/-- A program's text. -/
def txtP (p : Pg) : List UInt8 := hdT p ++ p.days.flatMap (dyLn p)
/-- What a canonical program keeps to. -/
structure SmP (p : Pg) : Prop where
  nl : p.names.length ≤ 64
  ul : p.curs.length ≤ 4096
  pl : p.pool.length ≤ 16384
  dl : p.days.length ≤ 4096
  cl : ∀ s ∈ p.days, s.code.length ≤ 262144
  ok : ∀ s ∈ p.days, ∀ i ∈ s.code, i.okP
  tx : (txtP p).length ≤ 1000000000
theorem jl_le (k : Nat) (ws : List ByteArray) : (jnL ws).length ≤ (lnL k ws).length := by
  unfold lnL
  split
  · rename_i e; subst e; simp [jnL, Lib.join_nil]
  · simp; omega
theorem sr_wl {w W : World} {B : Nat} {a : Option Addr} {n c : Nat} {ss : List ByteArray} (h : SR w a n c ss) (b : Below w.heap.size w W) (hB : w.heap.size ≤ B) : WL B W a n ss := by
  obtain ⟨_, l1, _, _, r1⟩ := h
  refine ⟨l1, ?_⟩
  rcases r1 with q | ⟨g, o, e, h1, h2⟩
  · exact .inl q
  · refine .inr ⟨g, o, e, Nat.lt_of_lt_of_le h1 b.size, .inl (Nat.lt_of_lt_of_le h1 hB), fun j x hj => ?_⟩
    have hj' : j < ss.length := (List.getElem?_eq_some_iff.1 hj).1
    have := h2 j (by omega) 0 (by omega)
    simp only [Nat.mul_one, Nat.add_zero, List.getD_cons_zero] at this
    refine (b.cell (p := ⟨g, o + j, none⟩) h1).trans ?_
    rw [this]
    simp [List.getD, hj]
theorem flat_pre {α : Type} (f : α → List UInt8) (l : List α) (k : Nat) : ((l.take k).flatMap f).length ≤ (l.flatMap f).length := by
  have : l.flatMap f = (l.take k).flatMap f ++ (l.drop k).flatMap f := by rw [← List.flatMap_append, List.take_append_drop]
  rw [this]; simp
theorem flat_next {α : Type} [Inhabited α] (f : α → List UInt8) (l : List α) (k : Nat) (hk : k < l.length) : (l.take (k + 1)).flatMap f = (l.take k).flatMap f ++ f (l.getD k default) := by
  rw [List.take_succ_eq_append_getElem hk, List.flatMap_append]
  simp [List.getD, hk]
theorem ok8_blk {b k : Nat} {w w' : World} {cs : Array Value} {T : TypeId} {fz : Nat × Nat} (h : OK8 b w w') (hk : w.heap[k]? = some (.cells cs T fz)) (hb : k ≠ b) (hT : T ≠ 5) : w'.heap[k]? = some (.cells cs T fz) :=
  h k _ hk (fun e => hb (Option.some.inj e)) (fun c f e => by injection e with _ e _; exact hT e)
end Go.Proofs.YtccjeipkljdhdaaGreatDoor
