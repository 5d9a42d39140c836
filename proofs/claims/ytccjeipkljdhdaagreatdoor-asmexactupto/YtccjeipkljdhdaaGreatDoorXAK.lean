import Derived.Test.YtccjeipkljdhdaaGreatDoorXAB
import Derived.Test.YtccjeipkljdhdaaGreatDoorXAJ
import Derived.Test.YtccjeipkljdhdaaGreatDoorXAD
import Derived.Test.YtccjeipkljdhdaaGreatDoorXAE
import Derived.Lib.ItoaLen
import Derived.Test.YtccjeipkljdhdaaGreatDoorXAH
import Derived.Test.YtccjeipkljdhdaaGreatDoorXAI
import Derived.Deep.MidRow
import Derived.Lib.AtoiErrMem
import Derived.Lib.Hide
namespace Go.Proofs.YtccjeipkljdhdaaGreatDoor
open Go.RowKit
set_option linter.unusedVariables false
set_option linter.unusedSimpArgs false

theorem Pows.later {w w' : World} (h : Pows w) (b : Below w.heap.size w w') : Pows w' := Lib.tabBelow_of_tabIs h w' b
/-- The words of the roundings, where the program keeps them. -/
def Mds (w : World) : Prop := 4 < w.heap.size ∧ ∀ k, k < 5 → w.cell? ⟨4, k, none⟩ = some (.string (mdA k))
theorem Mds.later {w w' : World} (h : Mds w) (b : Below w.heap.size w w') : Mds w' := ⟨Nat.lt_of_lt_of_le h.1 b.size, fun k hk => (b.cell (p := ⟨4, k, none⟩) h.1).trans (h.2 k hk)⟩
end Go.Proofs.YtccjeipkljdhdaaGreatDoor

namespace Go.Proofs.YtccjeipkljdhdaaGreatDoor
open Go.RowKit
set_option linter.unusedVariables false
set_option linter.unusedSimpArgs false

/-- The lines' rules, in memory. -/
def LnR (w : World) : Prop := 2 < w.heap.size ∧ ∀ k, k < 8 → w.cell? ⟨2, k * 2, none⟩ = some (.string (hdA k)) ∧ w.cell? ⟨2, k * 2 + 1, none⟩ = some (.bool (optA k))
theorem LnR.later {w w' : World} (h : LnR w) (b : Below w.heap.size w w') : LnR w' := ⟨Nat.lt_of_lt_of_le h.1 b.size, fun k hk => ⟨(b.cell (p := ⟨2, k * 2, none⟩) h.1).trans (h.2 k hk).1, (b.cell (p := ⟨2, k * 2 + 1, none⟩) h.1).trans (h.2 k hk).2⟩⟩
def lnT : List Value := (List.range 8).flatMap fun k => [Value.string (hdA k), .bool (optA k)]
theorem lnT_part : ∀ k, k < 8 → List.take 2 (List.drop (k * 2) lnT) = [Value.string (hdA k), .bool (optA k)]
  | 0, _ => by kernel_rfl
  | 1, _ => by kernel_rfl
  | 2, _ => by kernel_rfl
  | 3, _ => by kernel_rfl
  | 4, _ => by kernel_rfl
  | 5, _ => by kernel_rfl
  | 6, _ => by kernel_rfl
  | 7, _ => by kernel_rfl
  | n + 8, h => absurd h (by omega)
theorem lnT_len : lnT.length = 16 := by kernel_rfl
theorem LnR.range {w : World} (h : LnR w) : w.rangeAt 2 0 lnT := by
  intro j v hv
  have hj : j < 16 := by have := (List.getElem?_eq_some_iff.1 hv).1; rw [lnT_len] at this; exact this
  obtain ⟨k, m, hk, hm, rfl⟩ : ∃ k m, k < 8 ∧ m < 2 ∧ j = k * 2 + m := ⟨j / 2, j % 2, by omega, by omega, by omega⟩
  have e : lnT[k * 2 + m]? = [Value.string (hdA k), .bool (optA k)][m]? := by rw [← lnT_part k hk, List.getElem?_take_of_lt hm, List.getElem?_drop]
  rw [e] at hv
  rw [Nat.zero_add, ← hv]
  obtain ⟨c0, c1⟩ := h.2 k hk
  rcases (show m = 0 ∨ m = 1 by omega) with rfl | rfl
  · exact c0
  · exact c1
theorem load_ln {ops : Array Oper} {rest : List Oper} {op : Oper} {a : Act} {w : World} {Q : Exit → Act → World → Prop} (hgd : op.guard = none) (x : Operand) (ho : op.op = .load 119 x) (hx : a.eval x = .pointer (some ⟨2, 0, none⟩)) (hR : LnR w) (h : wpList Tryz.prog ops Q rest (a.put op.dst (.agg lnT.toArray)) w) : wpList Tryz.prog ops Q (op :: rest) a w :=
  wpList_load_mid hgd 119 x ho 2 0 hx lnT _ hR.range Tryz.underlying119 rfl (by rw [lnT_len]; kernel_rfl) h
theorem index_ln {k : Nat} (hk : k < 8) (W : World) : (Instr.index 119 (.agg lnT.toArray) (.int .i64 (k : Int))).run Tryz.prog W = .ok (.agg #[.string (hdA k), .bool (optA k)]) W := by
  have h1 : (0 : Int) ≤ (k : Int) ∧ (k : Int) < ((8 : Nat) : Int) := by omega
  obtain ⟨i, hi, hs⟩ : ∃ i, Tryz.prog.info? 118 = some i ∧ i.size = 2 := by
    have : (Tryz.prog.info? 118).map (·.size) = some 2 := by kernel_rfl
    cases hq : Tryz.prog.info? 118 with
    | none => rw [hq] at this; cases this
    | some i => rw [hq] at this; exact ⟨i, rfl, by simpa using this⟩
  have hagg : (isAgg 118).run Tryz.prog W = .ok true W := by
    unfold isAgg
    rw [Sem.run_bind, run_underlying Tryz.underlying118 W]
    simp
  simp [Instr.index, run_underlying Tryz.underlying119, asIntOf, h1, sizeOf, typeInfo, hi, hs, part, Sem.run_bind, hagg, hk, lnT_part k hk]
def LnE (s : ByteArray) (i : Int) (b : Bool) : Prop := (∃ k : Nat, k < 8 ∧ hdA k = s ∧ i = (k : Int) ∧ b = true) ∨ ((∀ k : Nat, k < 8 → hdA k ≠ s) ∧ i = 0 ∧ b = false)
theorem hd_ne : ∀ k, k < 8 → ∀ j, j < 8 → k ≠ j → hdA k ≠ hdA j := by
  intro k hk j hj
  have : ∀ k, k < 8 → ∀ j, j < 8 → k ≠ j → (hdA k).data.toList ≠ (hdA j).data.toList := by decide
  exact fun ne e => this k hk j hj ne (by rw [e])
theorem LnE.one {s : ByteArray} {i i' : Int} {b b' : Bool} (h : LnE s i b) (k : LnE s i' b') : i = i' ∧ b = b' := by
  rcases h with ⟨a, ha, e, rfl, rfl⟩ | ⟨hn, rfl, rfl⟩
  · rcases k with ⟨c, hc, e', rfl, rfl⟩ | ⟨hn, _⟩
    · by_cases q : a = c
      · rw [q]; exact ⟨rfl, rfl⟩
      · exact absurd (e.trans e'.symm) (hd_ne a ha c hc q)
    · exact absurd e (hn a ha)
  · rcases k with ⟨c, hc, e', _⟩ | ⟨_, rfl, rfl⟩
    · exact absurd e' (hn c hc)
    · exact ⟨rfl, rfl⟩
set_option maxRecDepth 100000 in
set_option maxHeartbeats 2000000 in
theorem lineOf_any (s : ByteArray) (i : Int) (b : Bool) (hF : LnE s i b) (w : World) (hR : LnR w) :
    Calls Tryz.prog 67 #[.string s] w fun e w' => e = .returned (.tuple #[.int .i64 i, .bool b]) ∧ Below w.heap.size w w' := by
  have RR := Lib.hid hR
  have IX := Lib.hid (fun (k : Nat) (hk : k < 8) W => index_ln hk W)
  have HT := Lib.hid (p := ∀ k : Nat, k < 8 → hdA k = s → i = (k : Int) ∧ b = true) (fun k hk e => (LnE.one (.inl ⟨k, hk, e, rfl, rfl⟩) hF).imp Eq.symm Eq.symm)
  have HM := Lib.hid (p := (∀ k : Nat, k < 8 → hdA k ≠ s) → i = 0 ∧ b = false) (fun hn => (LnE.one (.inr ⟨hn, rfl, rfl⟩) hF).imp Eq.symm Eq.symm)
  have LT := Lib.hid (fun (ops : Array Oper) (rest : List Oper) (op : Oper) (a : Act) (Q : Exit → Act → World → Prop) => @load_ln ops rest op a w Q)
  clear hF hR
  generalize hA : lnT.toArray = A at *
  clear hA
  go_enter Tryz.func67, Tryz.ntmps67
  go_wp2_with (first | (with_reducible show wpList _ _ _ (Oper.mk _ (Op.load 119 _) _ _ _ _ :: _) _ _; refine LT.out _ _ _ _ _ rfl _ rfl rfl RR.out ?_))
  go_loopw [7] (fun t wr => ∃ k : Nat, k ≤ 8 ∧ t = .int .i64 (k : Int) ∧ RowKit.Hid (∀ j : Nat, j < k → hdA j ≠ s) ∧ Below w.heap.size w wr) (fun t _ => 8 - (intOf t).toNat)
  case atStart => exact ⟨0, by omega, rfl, fun j hj => absurd hj (by omega), Below.refl _ _⟩
  case round =>
    obtain ⟨k, hk, rfl, hN, hB⟩ := hrel
    rename World => wr
    have BB := Lib.hid hB
    clear hB
    by_cases hlt : k < 8
    · have kc : (k : Int) < 8 := by omega
      have ix := IX.out k hlt
      have HTk := Lib.hid (HT.out k hlt)
      have NX := Lib.hid (p := hdA k ≠ s → ∀ j : Nat, j < k + 1 → hdA j ≠ s) (fun g j hj => by
        rcases (show j < k ∨ j = k by omega) with q | q
        · exact hN.out j q
        · rw [q]; exact g)
      generalize hdA k = y at *
      generalize optA k = x1 at *
      by_cases hs : y = s
      · obtain ⟨rfl, rfl⟩ := HTk.out hs
        subst hs
        go_wp2
        go_ret2
        exact ⟨rfl, BB.out.alloc BB.out.size _⟩
      · have hs' : (y.toList == s.toList) = false := by
          rw [beq_eq_false_iff_ne]; exact fun q => hs (bytes_eq q)
        have NS := Lib.hid (NX.out hs)
        clear hs
        go_wp2
        go_roundw
        case rel => exact ⟨k + 1, by omega, by go_num, NS.out, BB.out.alloc BB.out.size _⟩
        case measure => simp [intOf]; omega
    · obtain rfl : k = 8 := by omega
      obtain ⟨rfl, rfl⟩ := HM.out hN.out
      go_wp2
      go_ret2
      exact ⟨rfl, BB.out⟩
set_option maxRecDepth 100000 in
set_option maxHeartbeats 2000000 in
theorem mayCome_any (rb next line : Nat) (w : World) (hc : w.cell? ⟨rb, 2, none⟩ = some (.int .i64 (next : Int))) (hl : line ≤ 8) (hn : next ≤ 8) (hR : LnR w) :
    Calls Tryz.prog 36 #[.pointer (some ⟨rb, 0, none⟩), .int .i64 (line : Int)] w fun e w' => e = .returned (.bool (mayC next line)) ∧ w' = w := by
  have RR := Lib.hid hR
  have NO := Lib.hid (p := ∀ k, next ≤ k → k < line → optA k = false → mayC next line = false) (fun k h1 h2 h3 => by
    unfold mayC
    rw [Bool.and_eq_false_iff]
    right
    rw [List.all_eq_false]
    exact ⟨k, by simpa using h2, by simp [h3]; omega⟩)
  have YES := Lib.hid (p := (∀ k, next ≤ k → k < line → optA k = true) → mayC next line = decide (next ≤ line)) (fun h => by
    unfold mayC
    have : ((List.range line).all fun k => decide (k < next) || optA k) = true := by
      rw [List.all_eq_true]
      intro k hk
      have hk : k < line := by simpa using hk
      by_cases q : k < next
      · simp [q]
      · simp [h k (by omega) hk]
    rw [this, Bool.and_true])
  obtain ⟨R, hRR⟩ : ∃ R, mayC next line = R := ⟨_, rfl⟩
  rw [hRR] at NO YES
  rw [hRR]
  clear hR hRR
  go_enter Tryz.func36, Tryz.ntmps36
  go_wp2
  go_loop [5] (fun t => ∃ k : Nat, next ≤ k ∧ k ≤ 8 ∧ t = .int .i64 (k : Int) ∧ RowKit.Hid (∀ j : Nat, next ≤ j → j < k → optA j = true)) (fun t => 8 - (intOf t).toNat)
  case atStart => exact ⟨next, by omega, hn, rfl, fun j h1 h2 => absurd h1 (by omega)⟩
  case round =>
    obtain ⟨k, k0, k8, rfl, hN⟩ := hrel
    by_cases hlt : k < line
    · have kc : (k : Int) < (line : Int) := by omega
      have kc8 : (k : Int) < 8 := by omega
      have c1 := (RR.out.2 k (by omega)).2
      cases ho : optA k with
      | true =>
        rw [ho] at c1
        have NN := Lib.hid (p := ∀ j : Nat, next ≤ j → j < k + 1 → optA j = true) (fun j h1 h2 => by
          rcases (show j < k ∨ j = k by omega) with q | q
          · exact hN.out j h1 q
          · rw [q]; exact ho)
        clear ho
        go_wp2
        go_round
        case rel => exact ⟨k + 1, by omega, by omega, by go_num, NN.out⟩
        case measure => simp [intOf]; omega
      | false =>
        rw [ho] at c1
        obtain rfl := NO.out k k0 hlt ho
        clear ho
        go_wp2
        go_ret
        exact ⟨rfl, rfl⟩
    · have E := Lib.hid (YES.out (fun j h1 h2 => hN.out j h1 (by omega)))
      have kc : ¬ (k : Int) < (line : Int) := by omega
      by_cases q : next ≤ line
      · have q1 : (next : Int) ≤ (line : Int) := by omega
        obtain rfl : R = true := by rw [E.out]; simp [q]
        clear E
        go_wp2
        go_ret
        exact ⟨by simp [q], rfl⟩
      · have q1 : ¬ (next : Int) ≤ (line : Int) := by omega
        obtain rfl : R = false := by rw [E.out]; simp [q]
        clear E
        go_wp2
        go_ret
        exact ⟨by simp [q], rfl⟩
end Go.Proofs.YtccjeipkljdhdaaGreatDoor

namespace Go.Proofs.YtccjeipkljdhdaaGreatDoor
open Go.RowKit
set_option linter.unusedVariables false
set_option linter.unusedSimpArgs false

set_option maxHeartbeats 1000000 in
set_option maxRecDepth 100000 in
theorem withoutStop_any (l : List UInt8) (p : Nat) (hp : p ≤ 18) (hl : l.length ≤ 21) (w : World) :
    Calls Tryz.prog 144 #[.string ⟨l.toArray⟩, .int .i64 p] w fun e w' => e = .returned (.string ⟨(wst p l).toArray⟩) ∧ Below w.heap.size w w' := by
  have sz : (⟨l.toArray⟩ : ByteArray).size = l.length := by simp [ByteArray.size]
  by_cases h0 : p = 0
  · subst h0
    rw [show wst 0 l = l by unfold wst; rw [if_pos (.inl rfl)]]
    go_enter Tryz.func144, Tryz.ntmps144
    go_wp2
    go_ret
    exact ⟨rfl, Below.refl _ _⟩
  · have h0' : ¬ (p : Int) = 0 := by omega
    by_cases h1 : l.length < p + 1
    · rw [show wst p l = l by unfold wst; rw [if_pos (.inr h1)]]
      have h2 : (l.length : Int) - p - 1 < 0 := by omega
      go_enter Tryz.func144, Tryz.ntmps144
      go_wp2
      go_ret
      exact ⟨rfl, Below.refl _ _⟩
    · rw [show wst p l = l.take (l.length - p - 1) ++ l.drop (l.length - p) by unfold wst; rw [if_neg (by omega)]]
      have h2 : ¬ (l.length : Int) - p - 1 < 0 := by omega
      have s1 := cutH l ((l.length : Int) - p - 1) (by omega) (by omega)
      have s2 := cutL l ((l.length : Int) - p) (by omega) (by omega)
      rw [show ((l.length : Int) - p - 1).toNat = l.length - p - 1 by omega] at s1
      rw [show ((l.length : Int) - p).toNat = l.length - p by omega] at s2
      have n1 : (l.take (l.length - p - 1)).length ≤ 40 := by simp; omega
      have n2 : (l.drop (l.length - p)).length ≤ 40 := by simp; omega
      generalize l.take (l.length - p - 1) = l1 at *
      generalize l.drop (l.length - p) = l2 at *
      have r1 := catS l1 l2 (by omega)
      generalize l1 ++ l2 = l3 at *
      have hw : IntKind.i64.wrap ((l.length : Int) - p - 1 + 1) = (l.length : Int) - p - 1 + 1 := by simp [IntKind.wrap, IntKind.bits, IntKind.signed]; omega
      have hw2 : IntKind.i64.wrap ((l.length : Int) - p) = (l.length : Int) - p := by simp [IntKind.wrap, IntKind.bits, IntKind.signed]; omega
      go_enter Tryz.func144, Tryz.ntmps144
      go_wp2
      go_region_held3 (fun _ => True) (exact trivial) (fail)
      all_goals
        go_wp2
        go_ret
        exact ⟨rfl, (Below.refl _ _).drew⟩

/-- The two error values stand. -/
def Ev (w : World) : Prop := (∃ t q, w.var? Tryz.prog "strconv.ErrSyntax" = some #[.iface t q]) ∧ ∃ t q, w.var? Tryz.prog "strconv.ErrRange" = some #[.iface t q]
theorem var_below {w w' : World} {name : String} {g : Nat} {cs : Array Value} (hg : Tryz.prog.globalNamed name = some g) (h : w.var? Tryz.prog name = some cs) (hb : Below w.heap.size w w') : w'.var? Tryz.prog name = some cs := by
  unfold World.var? at h ⊢
  rw [hg] at h ⊢
  simp only [Option.bind_some] at h ⊢
  have hlt : g < w.heap.size := by
    rcases Nat.lt_or_ge g w.heap.size with h' | h'
    · exact h'
    · rw [Array.getElem?_eq_none h'] at h; cases h
  rw [hb.block _ hlt]
  exact h
theorem ev_below {w w' : World} (h : Ev w) (hb : Below w.heap.size w w') : Ev w' := by
  obtain ⟨⟨t, q, h1⟩, t', q', h2⟩ := h
  exact ⟨⟨t, q, var_below (g := 7) (by kernel_rfl) h1 hb⟩, t', q', var_below (g := 8) (by kernel_rfl) h2 hb⟩
theorem pows_below {w w' : World} (h : Pows w) (hb : Below w.heap.size w w') : Pows w' := by
  unfold Pows Lib.TabIs at h ⊢
  exact var_below (g := 6) (by kernel_rfl) h hb

theorem atoi_ok (l : List UInt8) (hl : l.length ≤ 21) (v : Int) (h : Lib.atoiAll l = .ok v) (w : World) :
    Calls Tryz.prog 143 #[.string ⟨l.toArray⟩] w fun e w' => e = .returned (.tuple #[.int .i64 v, .nilIface]) ∧ Below w.heap.size w w' := by
  refine (Tryz.strconv_Atoi_ok ⟨l.toArray⟩ (by simp [ByteArray.size]; omega) v (by simpa using h) w).mono ?_
  rintro e w' ⟨rfl, hw⟩
  refine ⟨rfl, ?_⟩
  rcases hw with rfl | ⟨t, rfl⟩
  · exact Below.refl _ _
  · exact Lib.bytesWorld_below _ _ _
theorem atoi_bad (l : List UInt8) (hl : l.length ≤ 21) (h : ∀ v, Lib.atoiAll l ≠ .ok v) (w : World) (hE : Ev w) :
    Calls Tryz.prog 143 #[.string ⟨l.toArray⟩] w fun e w' => ∃ x t q, e = .returned (.tuple #[.int .i64 x, .iface t q]) ∧ Below w.heap.size w w' := by
  obtain ⟨⟨t, q, h1⟩, t', q', h2⟩ := hE
  cases hA : Lib.atoiAll l
  · rename_i v; exact absurd hA (h v)
  · refine (Any.strconv_Atoi_syntax_var Tryz.laysC172 ⟨l.toArray⟩ (by simp [ByteArray.size]; omega) (by simpa using hA) t q w h1).mono ?_
    rintro e w' ⟨N, rfl, _, _, hb⟩
    exact ⟨_, _, _, rfl, hb⟩
  · refine (Tryz.strconv_Atoi_range_var ⟨l.toArray⟩ (by simp [ByteArray.size]; omega) (by simpa using hA) t' q' w h2).mono ?_
    rintro e w' ⟨N, rfl, _, _, hb⟩
    exact ⟨_, _, _, rfl, hb⟩

theorem atoi_inR {l : List UInt8} {v : Int} (h : Lib.atoiAll l = .ok v) : inR v := by
  unfold inR
  cases l with
  | nil => simp [Lib.atoiAll] at h
  | cons c r =>
    simp only [Lib.atoiAll] at h
    split at h
    · cases h
    · cases h
    · split at h
      · cases h
      · split at h
        · cases h
        · injection h with h
          split at h <;> omega

/-- What Parse answers. -/
def prsV (p : Nat) (l : List UInt8) : Int := (prs p l).getD 0
def prsE (p : Nat) (l : List UInt8) : Int := match prs p l with | some _ => 0 | none => 11

theorem dec_dtx (v : Int) (hv : inR v) (p : Nat) (hp : p ≤ 18) (w : World) (ht : Pows w) :
    Calls Tryz.prog 109 #[.int .i64 v, .int .i64 p] w fun e w' => e = .returned (.string ⟨(dtx v p).toArray⟩) ∧ Below w.heap.size w w' :=
  decimal_any v hv (absI v).toNat (by have := absI_nonneg v; omega) p hp w ht

set_option maxHeartbeats 1000000 in
theorem parse_in (l : List UInt8) (p : Nat) (hp : p ≤ 18) (hl : l.length ≤ 21) (w : World) (ht : Pows w) (hE : Ev w) :
    Calls Tryz.prog 134 #[.string ⟨l.toArray⟩, .int .i64 p] w fun e w' => e = .returned (.tuple #[.int .i64 (prsV p l), .int .i64 (prsE p l)]) ∧ Below w.heap.size w w' := by
  have sz : ((⟨l.toArray⟩ : ByteArray).size : Int) ≤ 21 := by simp [ByteArray.size]; omega
  have F := veil (fit_any (p : Int))
  rw [decide_eq_true (show (0 : Int) ≤ p ∧ (p : Int) ≤ 18 by omega)] at F
  have WS := veil (fun w => withoutStop_any l p hp hl w)
  have wl := wst_len p l
  by_cases hok : ∃ v, Lib.atoiAll (wst p l) = .ok v
  · obtain ⟨v, hv⟩ := hok
    have AT := veil (fun w => atoi_ok (wst p l) (by omega) v hv w)
    have DT := veil (fun w ht => dec_dtx v (atoi_inR hv) p hp w ht)
    by_cases hd : dtx v p = l
    · have e1 : prsV p l = v := by unfold prsV prs; rw [hv]; simp [hd]
      have e2 : prsE p l = 0 := by unfold prsE prs; rw [hv]; simp [hd]
      rw [e1, e2]; clear e1 e2
      rw [hd] at DT
      generalize wst p l = l1 at *
      generalize (⟨l.toArray⟩ : ByteArray) = S at *
      clear hd hv wl
      go_enter Tryz.func134, Tryz.ntmps134
      go_wp2_with (first
        | (go_at_call 108; refine (unveil F _).mono ?_; rintro e w' ⟨rfl, rfl⟩)
        | (go_at_call 144; refine (unveil WS _).mono ?_; rintro e w1 ⟨rfl, b1⟩)
        | (go_at_call 143; refine (unveil AT _).mono ?_; rintro e w2 ⟨rfl, h2⟩; have b2 := b1.trans (h2.mono b1.size))
        | (go_at_call 109; refine (unveil DT _ (pows_below ht b2)).mono ?_; rintro e w3 ⟨rfl, h3⟩; have b3 := b2.trans (h3.mono b2.size)))
      go_ret2
      exact ⟨rfl, b3⟩
    · have e1 : prsV p l = 0 := by unfold prsV prs; rw [hv]; simp [hd]
      have e2 : prsE p l = 11 := by unfold prsE prs; rw [hv]; simp [hd]
      rw [e1, e2]; clear e1 e2
      have ne : ((⟨(dtx v p).toArray⟩ : ByteArray).toList == (⟨l.toArray⟩ : ByteArray).toList) = false := by
        rw [ByteArray.toList_mk, ByteArray.toList_mk]; simpa using hd
      generalize wst p l = l1 at *
      generalize (⟨l.toArray⟩ : ByteArray) = S at *
      generalize (⟨(dtx v p).toArray⟩ : ByteArray) = T at *
      clear hd hv wl
      go_enter Tryz.func134, Tryz.ntmps134
      go_wp2_with (first
        | (go_at_call 108; refine (unveil F _).mono ?_; rintro e w' ⟨rfl, rfl⟩)
        | (go_at_call 144; refine (unveil WS _).mono ?_; rintro e w1 ⟨rfl, b1⟩)
        | (go_at_call 143; refine (unveil AT _).mono ?_; rintro e w2 ⟨rfl, h2⟩; have b2 := b1.trans (h2.mono b1.size))
        | (go_at_call 109; refine (unveil DT _ (pows_below ht b2)).mono ?_; rintro e w3 ⟨rfl, h3⟩; have b3 := b2.trans (h3.mono b2.size)))
      go_ret2
      exact ⟨rfl, b3⟩
  · have hb : ∀ v, Lib.atoiAll (wst p l) ≠ .ok v := fun v e => hok ⟨v, e⟩
    have AT := veil (fun w hE => atoi_bad (wst p l) (by omega) hb w hE)
    have e0 : prs p l = none := by
      unfold prs; split
      · rename_i v hv; exact absurd hv (hb v)
      · rfl
    have e1 : prsV p l = 0 := by unfold prsV; rw [e0]; rfl
    have e2 : prsE p l = 11 := by unfold prsE; rw [e0]
    rw [e1, e2]; clear e1 e2 e0 hb hok
    generalize wst p l = l1 at *
    generalize (⟨l.toArray⟩ : ByteArray) = S at *
    clear wl
    go_enter Tryz.func134, Tryz.ntmps134
    go_wp2_with (first
      | (go_at_call 108; refine (unveil F _).mono ?_; rintro e w' ⟨rfl, rfl⟩)
      | (go_at_call 144; refine (unveil WS _).mono ?_; rintro e w1 ⟨rfl, b1⟩)
      | (go_at_call 143; refine (unveil AT _ (ev_below hE b1)).mono ?_; rintro e w2 ⟨x, t, q, rfl, h2⟩; have b2 := b1.trans (h2.mono b1.size)))
    go_ret2
    exact ⟨rfl, b2⟩

theorem parse_long (s : ByteArray) (p : Nat) (hp : p ≤ 18) (hl : ¬ s.size ≤ 21) (hm : s.size ≤ 9223372036854775807) (w : World) :
    Calls Tryz.prog 134 #[.string s, .int .i64 p] w fun e w' => e = .returned (.tuple #[.int .i64 0, .int .i64 11]) ∧ w' = w := by
  have F := veil (fit_any (p : Int))
  rw [decide_eq_true (show (0 : Int) ≤ p ∧ (p : Int) ≤ 18 by omega)] at F
  have sz : (21 : Int) < s.size := by omega
  go_enter Tryz.func134, Tryz.ntmps134
  go_wp2_with (go_at_call 108; refine (unveil F _).mono ?_; rintro e w' ⟨rfl, rfl⟩)
  go_ret2
  exact ⟨rfl, rfl⟩
end Go.Proofs.YtccjeipkljdhdaaGreatDoor
