import Derived.Test.YtccjeipkljdhdaaGreatDoorXAT
import Derived.Maps.OwnSet
import Derived.Maps.RangeWalk
namespace Go.Proofs.YtccjeipkljdhdaaGreatDoor
open Go.RowKit
set_option linter.unusedVariables false
set_option linter.unusedSimpArgs false

def TxE (w : World) (ss : List ByteArray) (b : Bool) (e : Ending) (w' : World) : Prop := ∃ v, e = .returned (.tuple #[v, .bool b]) ∧ OwQ w' w.heap.size v ss ∧ Below w.heap.size w w'
set_option maxHeartbeats 1000000 in
theorem textsC_any {w : World} {a : Option Addr} {n c : Nat} {ss : List ByteArray} (h : SR w a n c ss) (ha : a ≠ none) (hn : n ≤ 16777216) :
    Calls Tryz.prog 97 #[.slice a n c, .func (.func 76) #[] #[]] w fun e w' => TxE w ss (ss.all capP) e w' := by
  have KC := Lib.hid (containsCA_any w.heap.size (h.later (allocBP w (.cells #[.func (.func 76) #[] #[]] 35))) (by simp))
  have KL := Lib.hid (fun W (b : Below w.heap.size w W) => cloneS_any (h.later b) ha hn)
  have A0 := Lib.hid (allocBP w (.cells #[.func (.func 76) #[] #[]] 35))
  obtain ⟨B, hB⟩ : ∃ B, ss.all capP = B := ⟨_, rfl⟩
  rw [hB] at KC ⊢
  clear h hB
  go_enter Tryz.func97, Tryz.ntmps97
  go_wp2_with (first
    | (go_at_call 102; refine KC.out.mono ?_; rintro e w1 ⟨rfl, h2⟩; subst h2)
    | (go_at_call 119; refine (KL.out _ A0.out).mono ?_; rintro e w2 ⟨v, rfl, h1, h2⟩; have O2 := Lib.hid h1; have B2 := Lib.hid (A0.out.trans (h2.mono A0.out.size)); clear h1 h2))
  go_ret2
  refine ⟨v, rfl, ?_, B2.out⟩
  obtain ⟨q1, q2⟩ := O2.out
  exact ⟨q1, q2.imp_right (fun ⟨g, cap, cur, e1, e2, e3⟩ => ⟨g, cap, cur, e1, Nat.le_trans A0.out.size e2, e3⟩)⟩
set_option maxHeartbeats 1000000 in
theorem textsU_any {w : World} {a : Option Addr} {n c : Nat} {ss : List ByteArray} (h : SR w a n c ss) (ha : a ≠ none) (hn : n ≤ 16777216) :
    Calls Tryz.prog 97 #[.slice a n c, .func (.func 78) #[] #[]] w fun e w' => TxE w ss (ss.all curP) e w' := by
  have KC := Lib.hid (containsUA_any w.heap.size (h.later (allocBP w (.cells #[.func (.func 78) #[] #[]] 35))) (by simp))
  have KL := Lib.hid (fun W (b : Below w.heap.size w W) => cloneS_any (h.later b) ha hn)
  have A0 := Lib.hid (allocBP w (.cells #[.func (.func 78) #[] #[]] 35))
  obtain ⟨B, hB⟩ : ∃ B, ss.all curP = B := ⟨_, rfl⟩
  rw [hB] at KC ⊢
  clear h hB
  go_enter Tryz.func97, Tryz.ntmps97
  go_wp2_with (first
    | (go_at_call 102; refine KC.out.mono ?_; rintro e w1 ⟨rfl, h2⟩; subst h2)
    | (go_at_call 119; refine (KL.out _ A0.out).mono ?_; rintro e w2 ⟨v, rfl, h1, h2⟩; have O2 := Lib.hid h1; have B2 := Lib.hid (A0.out.trans (h2.mono A0.out.size)); clear h1 h2))
  go_ret2
  refine ⟨v, rfl, ?_, B2.out⟩
  obtain ⟨q1, q2⟩ := O2.out
  exact ⟨q1, q2.imp_right (fun ⟨g, cap, cur, e1, e2, e3⟩ => ⟨g, cap, cur, e1, Nat.le_trans A0.out.size e2, e3⟩)⟩
/-- A list of numbers of the call's own. -/
def OwZs (w : World) (B : Nat) (v : Value) (l : List Int) : Prop := w.ownsRow B 3 1 v l.length (intsP l)
theorem valsW_snoc : ∀ (a : List ByteArray) (w : ByteArray), valsW (a ++ [w]) = (valsW a).bind fun l => (valW w).map fun v => l ++ [v]
  | [], w => by
    simp only [List.nil_append, valsW]
    cases valW w <;> simp
  | x :: a, w => by
    have ih := valsW_snoc a w
    simp only [List.cons_append, valsW, ih]
    cases valW x with
    | none => simp
    | some v =>
      cases valsW a with
      | none => simp
      | some l => cases valW w <;> simp
theorem valsW_bad {a b : List ByteArray} (h : valsW a = none) : valsW (a ++ b) = none := by
  induction a with
  | nil => simp [valsW] at h
  | cons x a ih =>
    simp only [List.cons_append, valsW] at h ⊢
    cases hv : valW x with
    | none => rfl
    | some v =>
      rw [hv] at h
      simp only [Option.map_eq_none_iff] at h
      simp [ih h]
theorem valsW_in : ∀ {a : List ByteArray} {l : List Int}, valsW a = some l → ∀ x ∈ l, inR x
  | [], l, h => by
    simp only [valsW, Option.some.injEq] at h
    subst h
    intro x hx
    cases hx
  | w :: a, l, h => by
    simp only [valsW] at h
    cases hv : valW w with
    | none => rw [hv] at h; cases h
    | some v =>
      rw [hv] at h
      obtain ⟨m, hm, rfl⟩ := Option.map_eq_some_iff.1 h
      intro x hx
      rcases List.mem_cons.1 hx with rfl | hx
      · exact valW_in hv
      · exact valsW_in hm x hx
theorem infoZ : (Tryz.prog.info? 3).map (fun i => (i.zero, i.size, i.bytes)) = some (some (.int .i64 0), 1, 8) := by kernel_rfl
theorem wp_intA {ops : Array Oper} {rest : List Oper} {o : Oper} {a : Act} {Q : Exit → Act → World → Prop} (W : World) (B : Nat) (u : Int) (l : List Int) (hgd : o.guard = none) (sl x : Operand)
    (ho : o.op = .call { callee := .builtin .append, args := #[sl, x], argTypes := #[24, 24] }) (v : Value) (hs : a.eval sl = v)
    (hx : a.eval x = .slice (some ⟨W.heap.size, 0, none⟩) 1 1) (hown : OwZs W B v l) (hl : l.length ≤ 1073741824) (hb : B ≤ W.heap.size)
    (h : ∀ v' w', OwZs w' B v' (l ++ [u]) → (W.alloc (.cells #[.int .i64 u] 3)).grownBy w' v.ownBlock → wpList Tryz.prog ops Q rest (a.put o.dst v') w') :
    wpList Tryz.prog ops Q (o :: rest) a (W.alloc (.cells #[.int .i64 u] 3)) := by
  obtain ⟨i0, hi, hz0, hz1, hz2⟩ := info_parts infoZ
  refine wpList_append_own _ hgd sl x 24 ho B 3 i0 (.int .i64 0) 1 8 Tryz.underlying24 hi hz0 hz1 hz2 rfl (by decide) v _ _ hs (World.ownsRow.alloc hown _) ⟨W.heap.size, 0, none⟩ 1 1 [.int .i64 u] hx rfl ?_ ?_ (by unfold maxLen; omega) (by omega) (by simp; omega) ?_
  · intro j v hj
    match j, hj with
    | 0, hj => simp at hj; subst hj; simp [Addr.add]
  · intro v hv
    rw [List.mem_singleton.1 hv]; rfl
  · intro v' w' h1 h2 _
    refine h v' w' ?_ h2
    unfold OwZs intsP
    rw [List.length_append, List.map_append]
    exact h1
def VsE (w : World) (ss : List ByteArray) (e : Ending) (w' : World) : Prop := (∃ v b, e = .returned (.tuple #[v, .bool b]) ∧ b = (valsW ss).isSome ∧ ∃ l, OwZs w' w.heap.size v l ∧ (∀ k, valsW ss = some k → l = k) ∧ (∀ x ∈ l, inR x) ∧ l.length ≤ ss.length) ∧ Below w.heap.size w w'
set_option maxHeartbeats 2000000 in
theorem valuesOf_any {w : World} {a : Option Addr} {n c : Nat} {ss : List ByteArray} (h : SR w a n c ss) (hn : n ≤ 16777216) (hz : ∀ s ∈ ss, s.size ≤ 16777216) (ht : Pows w) (hE : Ev w) :
    Calls Tryz.prog 99 #[.slice a n c] w fun e w' => VsE w ss e w' := by
  obtain ⟨_, l1, b1, s1, r1⟩ := h
  have R1 := Lib.hid r1
  have L1 := Lib.hid l1
  have HZ := Lib.hid hz
  have KV := Lib.hid (fun (s : ByteArray) (q : s.size ≤ 16777216) (W : World) (b : Below w.heap.size w W) => valueOf_any s q W (pows_below ht b) (ev_below hE b))
  clear l1 r1 s1 hz ht hE
  go_enter Tryz.func99, Tryz.ntmps99
  go_wp2
  go_loopw [4, 11] (fun v t W => ∃ (k : Nat) (u : Value) (l : List Int), u = v ∧ k ≤ n ∧ t = .int .i64 k ∧ valsW (ss.take k) = some l ∧ l.length = k ∧ OwZs W w.heap.size u l ∧ Below w.heap.size w W) (fun _ t _ => n - (intOf t).toNat)
  case atStart => exact ⟨0, _, [], rfl, by omega, rfl, rfl, rfl, World.ownsRow_nil _ _ _ _, Below.refl _ _⟩
  case round =>
    rename World => W
    obtain ⟨k, u, l, rfl, hk, rfl, hv, hll, hO, hB⟩ := hrel
    have VV := Lib.hid hv
    have LL := Lib.hid hll
    have OO := Lib.hid hO
    have BB := Lib.hid hB
    have lb : l.length ≤ 1073741824 := by omega
    by_cases hlt : k < n
    · obtain ⟨x, o, rfl, hx, hc⟩ := R1.out.oneP (by omega)
      have c0 := hc k hlt 0 (by omega)
      simp only [Nat.mul_one, Nat.add_zero, List.getD_cons_zero] at c0
      have c1 : W.cell? ⟨x, o + k, none⟩ = some (.string (ss.getD k default)) := (hB.cell (p := ⟨x, o + k, none⟩) hx).trans c0
      have kc : (k : Int) < (n : Int) := by omega
      have lk : k < ss.length := by rw [L1.out]; exact hlt
      have K := Lib.hid (KV.out (ss.getD k default) (HZ.out _ (tx_mem lk)) W hB)
      have TK := Lib.hid (p := ss.take (k + 1) = ss.take k ++ [ss.getD k default]) (by rw [List.take_succ_eq_append_getElem lk]; simp [List.getD, lk])
      have TD := Lib.hid (p := ss = ss.take (k + 1) ++ ss.drop (k + 1)) (List.take_append_drop _ _).symm
      have SN := Lib.hid (valsW_snoc (ss.take k) (ss.getD k default))
      generalize ss.getD k default = z at *
      clear hc c0 hv hll hO hB
      cases hz : valW z with
      | none =>
        have E := Lib.hid (p := valsW ss = none) (by
          have e1 := SN.out
          rw [← TK.out, VV.out, hz] at e1
          rw [TD.out]
          exact valsW_bad (by simpa using e1))
        rw [hz] at K
        clear hz SN TK TD
        go_wp2_with (go_at_call 117; refine K.out.mono ?_; rintro e w2 ⟨rfl, h2⟩; have B2 := Lib.hid (BB.out.trans (h2.mono BB.out.size)); clear h2)
        go_ret2
        exact ⟨⟨_, _, rfl, by rw [E.out]; rfl, [], World.ownsRow_nil _ _ _ _, (fun k e => by rw [E.out] at e; cases e), (fun x hx => by cases hx), Nat.zero_le _⟩, B2.out⟩
      | some q =>
        have NV := Lib.hid (p := valsW (ss.take (k + 1)) = some (l ++ [q])) (by
          rw [TK.out, SN.out, VV.out, hz]; rfl)
        rw [hz] at K
        clear hz SN TK TD
        go_wp2_with (first
          | (go_at_call 117; refine K.out.mono ?_; rintro e w2 ⟨rfl, h2⟩; have O2 := Lib.hid (p := OwZs w2 w.heap.size u l) (World.ownsRow.kept OO.out ⟨h2.os, h2.tape, h2.output, h2.size, fun i hi _ => h2.block i hi⟩ (Classical.em _)); have B2 := Lib.hid (BB.out.trans (h2.mono BB.out.size)); have s2 := B2.out.size; clear h2)
          | (at_builtin; refine wp_intA _ w.heap.size q l rfl _ _ rfl u rfl rfl O2.out lb s2 ?_; intro v3 w3 o3 g3; have O3 := Lib.hid o3; have B3 := Lib.hid ((B2.out.alloc B2.out.size _).grown g3 (Nat.le_trans B2.out.size (by simp)) (fun k e => (World.ownsRow.lt O2.out k e).1)); clear o3 g3))
        go_roundw
        case rel => exact ⟨k + 1, _, l ++ [q], rfl, by omega, by go_num, NV.out, by simp [LL.out], O3.out, B3.out⟩
        case measure => simp [intOf]; omega
    · obtain rfl : k = n := by omega
      have E := Lib.hid (p := valsW ss = some l) (by have := VV.out; rwa [List.take_of_length_le (by rw [L1.out]; exact Nat.le_refl _)] at this)
      clear hv hll hO hB
      go_wp2
      go_ret2
      exact ⟨⟨_, _, rfl, by rw [E.out]; rfl, l, OO.out, (fun k e => by rw [E.out] at e; injection e), valsW_in E.out, by rw [LL.out, L1.out]; exact Nat.le_refl _⟩, BB.out⟩
end Go.Proofs.YtccjeipkljdhdaaGreatDoor

namespace Go.Proofs.YtccjeipkljdhdaaGreatDoor
open Go.RowKit Go.Shelf Go.Maps
attribute [local go_sem] Oper.semAt_some
set_option linter.unusedVariables false
set_option linter.unusedSimpArgs false

theorem plc_snoc {α : Type} [DecidableEq α] (l : List α) (z c : α) : plcW (l ++ [z]) c = match plcW l c with | some i => some i | none => if c = z then some (l.length : Int) else none := by
  unfold plcW
  by_cases h : c ∈ l
  · have hf : (l.findIdx fun y => decide (y = c)) < l.length := List.findIdx_lt_length_of_exists ⟨c, h, by simp⟩
    rw [if_pos h, if_pos (List.mem_append.2 (.inl h)), List.findIdx_append, if_pos hf]
  · rw [if_neg h]
    by_cases e : c = z
    · subst e
      have hf : ¬ (l.findIdx fun y => decide (y = c)) < l.length := by
        intro q
        obtain ⟨x, hx, e⟩ := List.findIdx_lt_length.1 q
        exact h (by simp at e; rwa [← e])
      rw [if_pos (by simp), List.findIdx_append, if_neg hf]
      simp [List.findIdx_cons]
    · rw [if_neg (by simp [h, e])]
      simp [e]
/-- A map says what f says. -/
def litT (c : ByteArray) : Lit := .string c.data.toList
theorem litT_ne {c c' : ByteArray} (h : c' ≠ c) : litT c' ≠ litT c := fun e => h (by
  unfold litT at e
  injection e with e
  obtain ⟨⟨x⟩⟩ := c; obtain ⟨⟨y⟩⟩ := c'
  simp at e; rw [e])
def MpS (D : DataW Unit) (f : ByteArray → Option Int) : Prop :=
  IsMap D ∧ (∀ c, D.atKey (litT c) (.lit (.int .i64 0)) = .lit (.int .i64 ((f c).getD 0))) ∧ ∀ c, Maps.has D (litT c) = (f c).isSome
theorem MpS.none : MpS (.map []) (fun _ => none) := ⟨isMap_empty, fun _ => rfl, fun _ => rfl⟩
theorem MpS.put {D : DataW Unit} {f : ByteArray → Option Int} (h : MpS D f) (z : ByteArray) (v : Int) : MpS (D.put (litT z) (.lit (.int .i64 v))) (fun c => if c = z then some v else f c) := by
  obtain ⟨h1, h2, h3⟩ := h
  refine ⟨h1.put _ _, fun c => ?_, fun c => ?_⟩
  · by_cases e : c = z
    · simp only [if_pos e]; rw [e, atKey_put_same h1 (k := litT z) trivial]; rfl
    · simp only [if_neg e]; rw [atKey_put_other (litT_ne e), h2]
  · by_cases e : c = z
    · simp only [if_pos e]; rw [e, has_put_same h1 (k := litT z) trivial]; rfl
    · simp only [if_neg e]; rw [has_put_other (litT_ne e), h3]
theorem MpS.congr {D : DataW Unit} {f g : ByteArray → Option Int} (h : MpS D f) (e : ∀ c, f c = g c) : MpS D g := by
  have : f = g := funext e
  rwa [← this]
theorem lawT : Keyed Tryz.prog 9 := string_keyed Tryz.underlying9
theorem zeroJ (w : World) : (zeroValue 3).run Tryz.prog w = .ok (.int .i64 0) w := by kernel_rfl
theorem keyT {c : ByteArray} (h : c.size ≤ 140737488351232) : keyOf Tryz.prog 9 (.string c) = some (litT c) := WideMaps.keyOf_string_mk Tryz.underlying9 (by unfold maxLen; omega)
theorem mk_mapS (W : World) : (Instr.makeMap 49 none).run Tryz.prog W = .ok (.map (some W.heap.size)) (W.alloc (.map #[] 0)) := by
  simp [Instr.makeMap, run_underlying Tryz.underlying49]
/-- A map of first places, in memory. -/
def MapS (w : World) (B b : Nat) (f : ByteArray → Option Int) : Prop := ∃ m D, w.ownsMap Tryz.prog 9 (plainElem (H := Unit) Tryz.prog 3) b m D ∧ MpS D f ∧ B ≤ b
def FpS (w : World) (ss : List ByteArray) (e : Ending) (w' : World) : Prop := ∃ b, e = .returned (.map (some b)) ∧ MapS w' w.heap.size b (plcW ss) ∧ Below w.heap.size w w'
set_option maxRecDepth 100000 in
set_option maxHeartbeats 2000000 in
theorem firstS_any {w : World} {a : Option Addr} {n c : Nat} {ss : List ByteArray} (h : SR w a n c ss) (hn : n ≤ 16777216) :
    Calls Tryz.prog 98 #[.slice a n c] w fun e w' => FpS w ss e w' := by
  obtain ⟨_, l1, b1, s1, r1⟩ := h
  have R1 := Lib.hid r1
  have L1 := Lib.hid l1
  have S1 := Lib.hid s1
  have mk := mk_mapS
  have M0 := Lib.hid (World.ownsMap_made w Tryz.prog 9 (plainElem (H := Unit) Tryz.prog 3))
  have A0 := Lib.hid (allocBP w (.map #[] 0))
  clear l1 r1 s1
  go_enter Tryz.func98, Tryz.ntmps98
  go_wp2
  clear mk
  go_loopw [11] (fun t W => ∃ (k m : Nat) (D : DataW Unit), k ≤ n ∧ t = .int .i64 k ∧ m ≤ k ∧ W.ownsMap Tryz.prog 9 (plainElem (H := Unit) Tryz.prog 3) w.heap.size m D ∧ MpS D (plcW (ss.take k)) ∧ Below w.heap.size w W) (fun t _ => n - (intOf t).toNat)
  case atStart => exact ⟨0, 0, _, by omega, rfl, by omega, M0.out, MpS.none.congr (fun c => by simp [plcW]), A0.out⟩
  case round =>
    rename World => W
    obtain ⟨k, m, D, hk, rfl, hm, hM, hD, hB⟩ := hrel
    have MM := Lib.hid hM
    have DD := Lib.hid hD
    have BB := Lib.hid hB
    by_cases hlt : k < n
    · obtain ⟨x, o, rfl, hx, hc⟩ := R1.out.oneP (by omega)
      have c0 := hc k hlt 0 (by omega)
      simp only [Nat.mul_one, Nat.add_zero, List.getD_cons_zero] at c0
      have c1 : W.cell? ⟨x, o + k, none⟩ = some (.string (ss.getD k default)) := (hB.cell (p := ⟨x, o + k, none⟩) hx).trans c0
      have kc : (k : Int) < (n : Int) := by omega
      have lk : k < ss.length := by rw [L1.out]; exact hlt
      have zs := S1.out _ (tx_mem lk)
      have TK := Lib.hid (p := ss.take (k + 1) = ss.take k ++ [ss.getD k default]) (by rw [List.take_succ_eq_append_getElem lk]; simp [List.getD, lk])
      have TL := Lib.hid (p := (ss.take k).length = k) (by rw [List.length_take]; omega)
      generalize ss.getD k default = z at *
      have hkey := keyT zs
      have HB0 := hD.2.2 z
      have PE := Lib.hid (plainElem_int (H := Unit) (P := Tryz.prog) Tryz.underlying3 (show (Lit.int .i64 (k : Int)).wf = true by simp [Lit.wf, IntKind.min, IntKind.max, IntKind.bits, IntKind.signed]; omega))
      clear hc c0 hM hD hB zs
      cases hp : plcW (ss.take k) z with
      | none =>
        have HB := Lib.hid (p := Maps.has D (litT z) = false) (by rw [HB0, hp]; rfl)
        have ND := Lib.hid (p := MpS (D.put (litT z) (.lit (.int .i64 (k : Int)))) (plcW (ss.take (k + 1)))) ((DD.out.put z (k : Int)).congr (fun c => by
          rw [TK.out, plc_snoc, TL.out]
          by_cases e : c = z
          · rw [if_pos e, e, hp]; simp
          · rw [if_neg e]
            cases plcW (ss.take k) c with
            | none => simp [e]
            | some i => rfl))
        clear hp HB0
        go_wp2_with (first
          | (at_lookup; refine wpList_lookup_own_ok_int _ rfl _ _ 49 rfl 9 3 .i64 lawT Tryz.underlying49 Tryz.underlying3 (zeroJ _) w.heap.size m _ rfl MM.out _ _ rfl hkey ?_; intro q hat hwc; rw [HB.out]; clear hat hwc)
          | (at_mapUpdate; refine wpList_mapUpdate_own _ rfl _ _ _ 49 rfl 9 3 lawT Tryz.underlying49 _ w.heap.size m _ rfl MM.out (by unfold maxLen; omega) _ _ _ rfl rfl hkey _ [] PE.out ?_; intro w3 o3 g3; have O3 := Lib.hid o3; have B3 := Lib.hid (BB.out.grown g3 BB.out.size (fun k e => by cases e; exact Nat.le_refl _)); clear o3 g3))
        go_roundw
        case rel => exact ⟨k + 1, m + 1, _, by omega, by go_num, by omega, O3.out, ND.out, B3.out⟩
        case measure => simp [intOf]; omega
      | some i =>
        have HB := Lib.hid (p := Maps.has D (litT z) = true) (by rw [HB0, hp]; rfl)
        have ND := Lib.hid (p := MpS D (plcW (ss.take (k + 1)))) (DD.out.congr (fun c => by
          rw [TK.out, plc_snoc]
          by_cases e : c = z
          · rw [e, hp]
          · cases plcW (ss.take k) c with
            | none => simp [e]
            | some i => rfl))
        clear hp HB0
        go_wp2_with (at_lookup; refine wpList_lookup_own_ok_int _ rfl _ _ 49 rfl 9 3 .i64 lawT Tryz.underlying49 Tryz.underlying3 (zeroJ _) w.heap.size m _ rfl MM.out _ _ rfl hkey ?_; intro q hat hwc; rw [HB.out]; clear hat hwc)
        go_roundw
        case rel => exact ⟨k + 1, m, _, by omega, by go_num, by omega, MM.out, ND.out, BB.out⟩
        case measure => simp [intOf]; omega
    · obtain rfl : k = n := by omega
      have E := Lib.hid (p := MpS D (plcW ss)) (by have := DD.out; rwa [List.take_of_length_le (by rw [L1.out]; exact Nat.le_refl _)] at this)
      clear hM hD hB
      go_wp2
      go_ret
      exact ⟨_, rfl, ⟨m, D, MM.out, E.out, Nat.le_refl _⟩, BB.out⟩
end Go.Proofs.YtccjeipkljdhdaaGreatDoor

namespace Go.Proofs.YtccjeipkljdhdaaGreatDoor
open Go.RowKit Go.Shelf Go.Maps
attribute [local go_sem] Oper.semAt_some
set_option linter.unusedVariables false
set_option linter.unusedSimpArgs false

def litZ (c : Int) : Lit := .int .i64 c
theorem litZ_ne {c c' : Int} (h : c' ≠ c) : litZ c' ≠ litZ c := fun e => h (by
  unfold litZ at e
  injection e)
def MpZ (D : DataW Unit) (f : Int → Option Int) : Prop :=
  IsMap D ∧ (∀ c, D.atKey (litZ c) (.lit (.int .i64 0)) = .lit (.int .i64 ((f c).getD 0))) ∧ ∀ c, Maps.has D (litZ c) = (f c).isSome
theorem MpZ.none : MpZ (.map []) (fun _ => none) := ⟨isMap_empty, fun _ => rfl, fun _ => rfl⟩
theorem MpZ.put {D : DataW Unit} {f : Int → Option Int} (h : MpZ D f) (z : Int) (v : Int) : MpZ (D.put (litZ z) (.lit (.int .i64 v))) (fun c => if c = z then some v else f c) := by
  obtain ⟨h1, h2, h3⟩ := h
  refine ⟨h1.put _ _, fun c => ?_, fun c => ?_⟩
  · by_cases e : c = z
    · simp only [if_pos e]; rw [e, atKey_put_same h1 (k := litZ z) trivial]; rfl
    · simp only [if_neg e]; rw [atKey_put_other (litZ_ne e), h2]
  · by_cases e : c = z
    · simp only [if_pos e]; rw [e, has_put_same h1 (k := litZ z) trivial]; rfl
    · simp only [if_neg e]; rw [has_put_other (litZ_ne e), h3]
theorem MpZ.congr {D : DataW Unit} {f g : Int → Option Int} (h : MpZ D f) (e : ∀ c, f c = g c) : MpZ D g := by
  have : f = g := funext e
  rwa [← this]
theorem lawZ : Keyed Tryz.prog 3 := int_keyed Tryz.underlying3
theorem keyZ {c : Int} (h : i64 c) : keyOf Tryz.prog 3 (.int .i64 c) = some (litZ c) := keyOf_int_mk Tryz.underlying3 h
theorem mk_mapZ (W : World) : (Instr.makeMap 50 none).run Tryz.prog W = .ok (.map (some W.heap.size)) (W.alloc (.map #[] 0)) := by
  simp [Instr.makeMap, run_underlying Tryz.underlying50]
/-- The same of numbers. -/
def MapZ (w : World) (B b : Nat) (f : Int → Option Int) : Prop := ∃ m D, w.ownsMap Tryz.prog 3 (plainElem (H := Unit) Tryz.prog 3) b m D ∧ MpZ D f ∧ B ≤ b
def FpZ (w : World) (ss : List Int) (e : Ending) (w' : World) : Prop := ∃ b, e = .returned (.map (some b)) ∧ MapZ w' w.heap.size b (plcW ss) ∧ Below w.heap.size w w'
set_option maxRecDepth 100000 in
set_option maxHeartbeats 2000000 in
theorem firstZ_any {w : World} {a : Option Addr} {n c : Nat} {ss : List Int} (h : NR w a n c ss) (hn : n ≤ 16777216) :
    Calls Tryz.prog 100 #[.slice a n c] w fun e w' => FpZ w ss e w' := by
  obtain ⟨_, l1, b1, s1, r1⟩ := h
  have R1 := Lib.hid r1
  have L1 := Lib.hid l1
  have S1 := Lib.hid s1
  have mk := mk_mapZ
  have M0 := Lib.hid (World.ownsMap_made w Tryz.prog 3 (plainElem (H := Unit) Tryz.prog 3))
  have A0 := Lib.hid (allocBP w (.map #[] 0))
  clear l1 r1 s1
  go_enter Tryz.func100, Tryz.ntmps100
  go_wp2
  clear mk
  go_loopw [11] (fun t W => ∃ (k m : Nat) (D : DataW Unit), k ≤ n ∧ t = .int .i64 k ∧ m ≤ k ∧ W.ownsMap Tryz.prog 3 (plainElem (H := Unit) Tryz.prog 3) w.heap.size m D ∧ MpZ D (plcW (ss.take k)) ∧ Below w.heap.size w W) (fun t _ => n - (intOf t).toNat)
  case atStart => exact ⟨0, 0, _, by omega, rfl, by omega, M0.out, MpZ.none.congr (fun c => by simp [plcW]), A0.out⟩
  case round =>
    rename World => W
    obtain ⟨k, m, D, hk, rfl, hm, hM, hD, hB⟩ := hrel
    have MM := Lib.hid hM
    have DD := Lib.hid hD
    have BB := Lib.hid hB
    by_cases hlt : k < n
    · obtain ⟨x, o, rfl, hx, hc⟩ := R1.out.oneP (by omega)
      have c0 := hc k hlt 0 (by omega)
      simp only [Nat.mul_one, Nat.add_zero, List.getD_cons_zero] at c0
      have c1 : W.cell? ⟨x, o + k, none⟩ = some (.int .i64 (ss.getD k 0)) := (hB.cell (p := ⟨x, o + k, none⟩) hx).trans c0
      have kc : (k : Int) < (n : Int) := by omega
      have lk : k < ss.length := by rw [L1.out]; exact hlt
      have zs := S1.out (ss.getD k 0) (by rw [show ss.getD k 0 = ss[k]'lk by simp [List.getD, lk]]; exact List.getElem_mem lk)
      have TK := Lib.hid (p := ss.take (k + 1) = ss.take k ++ [ss.getD k 0]) (by rw [List.take_succ_eq_append_getElem lk]; simp [List.getD, lk])
      have TL := Lib.hid (p := (ss.take k).length = k) (by rw [List.length_take]; omega)
      generalize ss.getD k 0 = z at *
      have hkey := keyZ zs
      have HB0 := hD.2.2 z
      have PE := Lib.hid (plainElem_int (H := Unit) (P := Tryz.prog) Tryz.underlying3 (show (Lit.int .i64 (k : Int)).wf = true by simp [Lit.wf, IntKind.min, IntKind.max, IntKind.bits, IntKind.signed]; omega))
      clear hc c0 hM hD hB zs
      cases hp : plcW (ss.take k) z with
      | none =>
        have HB := Lib.hid (p := Maps.has D (litZ z) = false) (by rw [HB0, hp]; rfl)
        have ND := Lib.hid (p := MpZ (D.put (litZ z) (.lit (.int .i64 (k : Int)))) (plcW (ss.take (k + 1)))) ((DD.out.put z (k : Int)).congr (fun c => by
          rw [TK.out, plc_snoc, TL.out]
          by_cases e : c = z
          · rw [if_pos e, e, hp]; simp
          · rw [if_neg e]
            cases plcW (ss.take k) c with
            | none => simp [e]
            | some i => rfl))
        clear hp HB0
        go_wp2_with (first
          | (at_lookup; refine wpList_lookup_own_ok_int _ rfl _ _ 50 rfl 3 3 .i64 lawZ Tryz.underlying50 Tryz.underlying3 (zeroJ _) w.heap.size m _ rfl MM.out _ _ rfl hkey ?_; intro q hat hwc; rw [HB.out]; clear hat hwc)
          | (at_mapUpdate; refine wpList_mapUpdate_own _ rfl _ _ _ 50 rfl 3 3 lawZ Tryz.underlying50 _ w.heap.size m _ rfl MM.out (by unfold maxLen; omega) _ _ _ rfl rfl hkey _ [] PE.out ?_; intro w3 o3 g3; have O3 := Lib.hid o3; have B3 := Lib.hid (BB.out.grown g3 BB.out.size (fun k e => by cases e; exact Nat.le_refl _)); clear o3 g3))
        go_roundw
        case rel => exact ⟨k + 1, m + 1, _, by omega, by go_num, by omega, O3.out, ND.out, B3.out⟩
        case measure => simp [intOf]; omega
      | some i =>
        have HB := Lib.hid (p := Maps.has D (litZ z) = true) (by rw [HB0, hp]; rfl)
        have ND := Lib.hid (p := MpZ D (plcW (ss.take (k + 1)))) (DD.out.congr (fun c => by
          rw [TK.out, plc_snoc]
          by_cases e : c = z
          · rw [e, hp]
          · cases plcW (ss.take k) c with
            | none => simp [e]
            | some i => rfl))
        clear hp HB0
        go_wp2_with (at_lookup; refine wpList_lookup_own_ok_int _ rfl _ _ 50 rfl 3 3 .i64 lawZ Tryz.underlying50 Tryz.underlying3 (zeroJ _) w.heap.size m _ rfl MM.out _ _ rfl hkey ?_; intro q hat hwc; rw [HB.out]; clear hat hwc)
        go_roundw
        case rel => exact ⟨k + 1, m, _, by omega, by go_num, by omega, MM.out, ND.out, BB.out⟩
        case measure => simp [intOf]; omega
    · obtain rfl : k = n := by omega
      have E := Lib.hid (p := MpZ D (plcW ss)) (by have := DD.out; rwa [List.take_of_length_le (by rw [L1.out]; exact Nat.le_refl _)] at this)
      clear hM hD hB
      go_wp2
      go_ret
      exact ⟨_, rfl, ⟨m, D, MM.out, E.out, Nat.le_refl _⟩, BB.out⟩
end Go.Proofs.YtccjeipkljdhdaaGreatDoor

namespace Go.Proofs.YtccjeipkljdhdaaGreatDoor
open Go.RowKit Go.Shelf Go.Maps
attribute [local go_sem] Oper.semAt_some
set_option linter.unusedVariables false
set_option linter.unusedSimpArgs false

/-- A map of places, or none yet. -/
def MpqS (W : World) (v : Value) (f : ByteArray → Option Int) : Prop := (v = .map none ∧ ∀ c, f c = none) ∨ ∃ b, v = .map (some b) ∧ MapS W 0 b f
def MpqZ (W : World) (v : Value) (f : Int → Option Int) : Prop := (v = .map none ∧ ∀ c, f c = none) ∨ ∃ b, v = .map (some b) ∧ MapZ W 0 b f
theorem MapS.later {W W' : World} {B b : Nat} {f : ByteArray → Option Int} (h : MapS W B b f) (k : Below W.heap.size W W') : MapS W' B b f := by
  obtain ⟨m, D, h1, h2, h3⟩ := h
  exact ⟨m, D, h1.kept ⟨k.os, k.tape, k.output, k.size, fun i hi _ => k.block i hi⟩ (row := none) (fun e => by cases e), h2, h3⟩
theorem MapZ.later {W W' : World} {B b : Nat} {f : Int → Option Int} (h : MapZ W B b f) (k : Below W.heap.size W W') : MapZ W' B b f := by
  obtain ⟨m, D, h1, h2, h3⟩ := h
  exact ⟨m, D, h1.kept ⟨k.os, k.tape, k.output, k.size, fun i hi _ => k.block i hi⟩ (row := none) (fun e => by cases e), h2, h3⟩
theorem MpqS.later {W W' : World} {v : Value} {f : ByteArray → Option Int} (h : MpqS W v f) (k : Below W.heap.size W W') : MpqS W' v f := h.imp_right fun ⟨b, e, m⟩ => ⟨b, e, m.later k⟩
theorem MpqZ.later {W W' : World} {v : Value} {f : Int → Option Int} (h : MpqZ W v f) (k : Below W.heap.size W W') : MpqZ W' v f := h.imp_right fun ⟨b, e, m⟩ => ⟨b, e, m.later k⟩
theorem mpqS_run {W : World} {v : Value} {f : ByteArray → Option Int} (h : MpqS W v f) (z : ByteArray) (hz : z.size ≤ 140737488351232) : ∃ i : Int, (Instr.lookup 49 v (.string z) true).run Tryz.prog W = .ok (.tuple #[.int .i64 i, .bool (f z).isSome]) W ∧ ∀ j, f z = some j → i = j := by
  rcases h with ⟨rfl, h⟩ | ⟨b, rfl, m, D, h1, h2, _⟩
  · refine ⟨0, ?_, fun j e => by rw [h z] at e; cases e⟩
    rw [h z]
    simpa using Maps.look_nil (w := W) true lawT Tryz.underlying49 (zeroJ _) (keyT hz)
  · obtain ⟨u, ps, hr, hv⟩ := h1.look_ok lawT Tryz.underlying49 (zeroJ W) (plainElem_int (H := Unit) (P := Tryz.prog) Tryz.underlying3 (show (Lit.int .i64 0).wf = true by decide)) (keyT hz)
    obtain ⟨c, rfl, hc, _⟩ := plainElem_int_inv Tryz.underlying3 hv
    have hat := congrArg Prod.fst hc
    simp only at hat
    rw [h2.2.1 z] at hat
    refine ⟨c, by rw [hr, h2.2.2 z], fun j e => ?_⟩
    rw [e] at hat
    exact (Lit.int.inj (DataW.lit.inj hat)).2.symm
theorem mpqZ_run {W : World} {v : Value} {f : Int → Option Int} (h : MpqZ W v f) (z : Int) (hz : i64 z) : ∃ i : Int, (Instr.lookup 50 v (.int .i64 z) true).run Tryz.prog W = .ok (.tuple #[.int .i64 i, .bool (f z).isSome]) W ∧ ∀ j, f z = some j → i = j := by
  rcases h with ⟨rfl, h⟩ | ⟨b, rfl, m, D, h1, h2, _⟩
  · refine ⟨0, ?_, fun j e => by rw [h z] at e; cases e⟩
    rw [h z]
    simpa using Maps.look_nil (w := W) true lawZ Tryz.underlying50 (zeroJ _) (keyZ hz)
  · obtain ⟨u, ps, hr, hv⟩ := h1.look_ok lawZ Tryz.underlying50 (zeroJ W) (plainElem_int (H := Unit) (P := Tryz.prog) Tryz.underlying3 (show (Lit.int .i64 0).wf = true by decide)) (keyZ hz)
    obtain ⟨c, rfl, hc, _⟩ := plainElem_int_inv Tryz.underlying3 hv
    have hat := congrArg Prod.fst hc
    simp only at hat
    rw [h2.2.1 z] at hat
    refine ⟨c, by rw [hr, h2.2.2 z], fun j e => ?_⟩
    rw [e] at hat
    exact (Lit.int.inj (DataW.lit.inj hat)).2.symm
/-- The modes' words. -/
def mdT : List Value := (List.range 5).map fun k => Value.string (mdA k)
theorem mdT_len : mdT.length = 5 := by kernel_rfl
theorem Mds.range {w : World} (h : Mds w) : w.rangeAt 4 0 mdT := by
  intro j v hv
  have hj : j < 5 := by have := (List.getElem?_eq_some_iff.1 hv).1; rw [mdT_len] at this; exact this
  have e : mdT[j]? = some (.string (mdA j)) := by simp [mdT, hj]
  rw [e] at hv
  rw [Nat.zero_add, ← hv]
  exact h.2 j hj
theorem load_md {ops : Array Oper} {rest : List Oper} {op : Oper} {a : Act} {w : World} {Q : Exit → Act → World → Prop} (hgd : op.guard = none) (x : Operand) (ho : op.op = .load 106 x) (hx : a.eval x = .pointer (some ⟨4, 0, none⟩)) (hR : Mds w) (h : wpList Tryz.prog ops Q rest (a.put op.dst (.agg mdT.toArray)) w) : wpList Tryz.prog ops Q (op :: rest) a w :=
  wpList_load_mid hgd 106 x ho 4 0 hx mdT _ hR.range Tryz.underlying106 rfl (by rw [mdT_len]; kernel_rfl) h
theorem index_md {k : Nat} (hk : k < 5) (W : World) : (Instr.index 106 (.agg mdT.toArray) (.int .i64 (k : Int))).run Tryz.prog W = .ok (.string (mdA k)) W := by
  have h1 : (0 : Int) ≤ (k : Int) ∧ (k : Int) < ((5 : Nat) : Int) := by omega
  obtain ⟨i, hi, hs⟩ : ∃ i, Tryz.prog.info? 9 = some i ∧ i.size = 1 := by
    have : (Tryz.prog.info? 9).map (·.size) = some 1 := by kernel_rfl
    cases hq : Tryz.prog.info? 9 with
    | none => rw [hq] at this; cases this
    | some i => rw [hq] at this; exact ⟨i, rfl, by simpa using this⟩
  have hagg : (isAgg 9).run Tryz.prog W = .ok false W := by
    unfold isAgg
    rw [Sem.run_bind, run_underlying Tryz.underlying9 W]
    simp
  simp [Instr.index, run_underlying Tryz.underlying106, asIntOf, h1, sizeOf, typeInfo, hi, hs, part, Sem.run_bind, hagg, hk, mdT]
theorem plc_at {α : Type} [DecidableEq α] {l : List α} {x : α} {k : Nat} (hk : k < l.length) (h : l[k] = x) (hn : ∀ j (hj : j < k), l[j]'(by omega) ≠ x) : plcW l x = some (k : Int) := by
  have hm : x ∈ l := h ▸ List.getElem_mem hk
  unfold plcW
  rw [if_pos hm]
  congr 2
  exact (List.findIdx_eq hk).2 ⟨by simp [h], fun j hj => by simp [hn j hj]⟩
theorem plc_not {α : Type} [DecidableEq α] {l : List α} {x : α} (h : ∀ j (hj : j < l.length), l[j] ≠ x) : plcW l x = none := by
  unfold plcW
  rw [if_neg]
  intro hm
  obtain ⟨j, hj, e⟩ := List.getElem_of_mem hm
  exact h j hj e
/-- A number or none. -/
def OnE (w : World) (o : Option Int) (e : Ending) (w' : World) : Prop := (∃ i : Int, e = .returned (.tuple #[.int .i64 i, .bool o.isSome]) ∧ ∀ j, o = some j → i = j) ∧ Below w.heap.size w w'
set_option maxRecDepth 100000 in
set_option maxHeartbeats 2000000 in
theorem modeOf_any (s : ByteArray) (w : World) (hR : Mds w) :
    Calls Tryz.prog 133 #[.string s] w fun e w' => OnE w (plcW mdL s) e w' := by
  have RR := Lib.hid hR
  have IX := Lib.hid (fun (k : Nat) (hk : k < 5) W => index_md hk W)
  have m5 : mdL.length = 5 := rfl
  have mg : ∀ k (hk : k < 5), mdL[k]'(by rw [m5]; exact hk) = mdA k := fun k hk => by simp [mdA, List.getD, m5, hk]
  have HT := Lib.hid (p := ∀ k : Nat, k < 5 → mdA k = s → (∀ j, j < k → mdA j ≠ s) → plcW mdL s = some (k : Int)) (fun k hk e hn => plc_at (by rw [m5]; exact hk) ((mg k hk).trans e) (fun j hj => by rw [mg j (by omega)]; exact hn j hj))
  have HM := Lib.hid (p := (∀ k : Nat, k < 5 → mdA k ≠ s) → plcW mdL s = none) (fun hn => plc_not (fun j hj => by rw [m5] at hj; rw [mg j hj]; exact hn j hj))
  have LT := Lib.hid (fun (ops : Array Oper) (rest : List Oper) (op : Oper) (a : Act) (Q : Exit → Act → World → Prop) => @load_md ops rest op a w Q)
  obtain ⟨R, hRR⟩ : ∃ R, plcW mdL s = R := ⟨_, rfl⟩
  rw [hRR] at HT HM
  rw [hRR]
  clear hR hRR mg m5
  generalize hA : mdT.toArray = A at *
  clear hA
  go_enter Tryz.func133, Tryz.ntmps133
  go_wp2_with (first | (with_reducible show wpList _ _ _ (Oper.mk _ (Op.load 106 _) _ _ _ _ :: _) _ _; refine LT.out _ _ _ _ _ rfl _ rfl rfl RR.out ?_))
  go_loopw [7] (fun t wr => ∃ k : Nat, k ≤ 5 ∧ t = .int .i64 (k : Int) ∧ RowKit.Hid (∀ j : Nat, j < k → mdA j ≠ s) ∧ Below w.heap.size w wr) (fun t _ => 5 - (intOf t).toNat)
  case atStart => exact ⟨0, by omega, rfl, fun j hj => absurd hj (by omega), Below.refl _ _⟩
  case round =>
    obtain ⟨k, hk, rfl, hN, hB⟩ := hrel
    rename World => wr
    have BB := Lib.hid hB
    clear hB
    by_cases hlt : k < 5
    · have kc : (k : Int) < 5 := by omega
      have ix := IX.out k hlt
      have HTk := Lib.hid (fun e => HT.out k hlt e hN.out)
      have NX := Lib.hid (p := mdA k ≠ s → ∀ j : Nat, j < k + 1 → mdA j ≠ s) (fun g j hj => by
        rcases (show j < k ∨ j = k by omega) with q | q
        · exact hN.out j q
        · rw [q]; exact g)
      generalize mdA k = y at *
      by_cases hs : y = s
      · obtain rfl := HTk.out hs
        subst hs
        go_wp2
        go_ret2
        exact ⟨⟨_, rfl, fun j e => by injection e⟩, BB.out⟩
      · have hs' : (y.toList == s.toList) = false := by
          rw [beq_eq_false_iff_ne]; exact fun q => hs (bytes_eq q)
        have NS := Lib.hid (NX.out hs)
        clear hs
        go_wp2
        go_roundw
        case rel => exact ⟨k + 1, by omega, by go_num, NS.out, BB.out⟩
        case measure => simp [intOf]; omega
    · obtain rfl : k = 5 := by omega
      obtain rfl := HM.out hN.out
      go_wp2
      go_ret2
      exact ⟨⟨_, rfl, fun j e => by cases e⟩, BB.out⟩
set_option maxRecDepth 100000 in
set_option maxHeartbeats 4000000 in
theorem operandOf_any (rb k : Nat) (s : ByteArray) (p : Ap) (nm um pm : Value) (w : World) (hs : s.size ≤ 16777216) (hR : Mds w) (ht : Pows w) (hE : Ev w) (hn : w.cell? ⟨rb, 11, none⟩ = some nm) (hu : w.cell? ⟨rb, 12, none⟩ = some um) (hp : w.cell? ⟨rb, 13, none⟩ = some pm)
    (qn : MpqS w nm (plcW p.ns)) (qu : MpqS w um (plcW p.cs)) (qp : MpqZ w pm (plcW p.pl)) (hrb : rb < w.heap.size) :
    Calls Tryz.prog 116 #[.pointer (some ⟨rb, 0, none⟩), .int .i64 (k : Int), .string s] w fun e w' => OnE w (opdW p k s) e w' := by
  have KV := Lib.hid (valueOf_any s hs w ht hE)
  have KN := Lib.hid (numberOf_any s hs w ht hE)
  have KM := Lib.hid (modeOf_any s w hR)
  have QP := Lib.hid qp
  have CP := Lib.hid (fun W (b : Below w.heap.size w W) => (b.cell (p := ⟨rb, 13, none⟩) hrb).trans hp)
  have VI := Lib.hid (fun v (e : valW s = some v) => valW_in e)
  by_cases k1 : k = 1
  · subst k1
    have e0 : opdW p 1 s = (valW s).bind (plcW p.pl) := by simp [opdW]
    rw [e0]
    clear e0 qn qu qp hR ht hE hn hu hp KN KM
    cases hv : valW s with
    | none =>
      rw [hv] at KV
      obtain ⟨i, hr0, _⟩ := mpqZ_run QP.out 0 (show (Lit.int .i64 0).wf = true by decide)
      go_enter Tryz.func116, Tryz.ntmps116
      go_wp2_with (go_at_call 117; refine KV.out.mono ?_; rintro e w2 ⟨rfl, h2⟩; have B2 := Lib.hid h2; have c13 := CP.out _ h2; obtain ⟨i2, hr, _⟩ := mpqZ_run (QP.out.later h2) 0 (show (Lit.int .i64 0).wf = true by decide); clear h2)
      go_ret2
      exact ⟨⟨_, rfl, fun j e => by cases e⟩, B2.out⟩
    | some v =>
      rw [hv] at KV
      have vi : i64 v := by have := VI.out v hv; unfold inR at this; simp [i64, Lit.wf, IntKind.min, IntKind.max, IntKind.bits, IntKind.signed]; omega
      obtain ⟨R, hRR⟩ : ∃ R, plcW p.pl v = R := ⟨_, rfl⟩
      have HRR := Lib.hid hRR
      show Calls _ _ _ _ (fun e w' => OnE w (plcW p.pl v) e w')
      rw [hRR]
      clear hRR hv
      go_enter Tryz.func116, Tryz.ntmps116
      go_wp2_with (go_at_call 117; refine KV.out.mono ?_; rintro e w2 ⟨rfl, h2⟩; have B2 := Lib.hid h2; have c13 := CP.out _ h2; obtain ⟨i2, hr, hi2⟩ := mpqZ_run (QP.out.later h2) v vi; rw [HRR.out] at hr hi2; have HI2 := Lib.hid hi2; clear h2 hi2)
      go_ret2
      exact ⟨⟨i2, by simp, HI2.out⟩, B2.out⟩
  by_cases k3 : k = 3
  · subst k3
    have e0 : opdW p 3 s = plcW p.ns s := by simp [opdW]
    rw [e0]
    obtain ⟨i2, hr, hi2⟩ := mpqS_run qn s (by omega)
    generalize plcW p.ns s = R at *
    have HI2 := Lib.hid hi2
    clear e0 qn qu qp hR ht hE hu hp KN KM KV hi2 k1
    go_enter Tryz.func116, Tryz.ntmps116
    go_wp2
    go_ret2
    exact ⟨⟨i2, rfl, HI2.out⟩, Below.refl _ _⟩
  by_cases k28 : k = 28
  · subst k28
    have e0 : opdW p 28 s = plcW p.cs s := by simp [opdW]
    rw [e0]
    obtain ⟨i2, hr, hi2⟩ := mpqS_run qu s (by omega)
    generalize plcW p.cs s = R at *
    have HI2 := Lib.hid hi2
    clear e0 qn qu qp hR ht hE hn hp KN KM KV hi2 k1 k3
    go_enter Tryz.func116, Tryz.ntmps116
    go_wp2
    go_ret2
    exact ⟨⟨i2, rfl, HI2.out⟩, Below.refl _ _⟩
  by_cases k18 : k = 18
  · subst k18
    have e0 : opdW p 18 s = plcW mdL s := by simp [opdW]
    rw [e0]
    generalize plcW mdL s = R at *
    clear e0 qn qu qp hR ht hE hn hp hu KN KV k1 k3 k28
    go_enter Tryz.func116, Tryz.ntmps116
    go_wp2_with (go_at_call 133; refine KM.out.mono ?_; rintro e w2 ⟨⟨i, rfl, hi⟩, h2⟩; have HI := Lib.hid hi; have B2 := Lib.hid h2; clear hi h2)
    go_ret2
    exact ⟨⟨i, rfl, HI.out⟩, B2.out⟩
  have e0 : opdW p k s = numW s := by simp [opdW, k1, k3, k28, k18]
  rw [e0]
  generalize numW s = R at *
  have n1 : ((k : Int) == 1) = false := by simp; omega
  have n3 : ((k : Int) == 3) = false := by simp; omega
  have n28 : ((k : Int) == 28) = false := by simp; omega
  have n18 : ((k : Int) == 18) = false := by simp; omega
  clear e0 qn qu qp hR ht hE hn hp hu KM KV k1 k3 k28 k18
  go_enter Tryz.func116, Tryz.ntmps116
  go_wp2_with (go_at_call 96; refine KN.out.mono ?_; rintro e w2 ⟨⟨i, rfl, hi⟩, h2⟩; have HI := Lib.hid hi; have B2 := Lib.hid h2; clear hi h2)
  go_ret2
  exact ⟨⟨i, rfl, HI.out⟩, B2.out⟩
end Go.Proofs.YtccjeipkljdhdaaGreatDoor
