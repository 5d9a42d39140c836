/-
  WALKS: numberOf, digitToken, dateToken, strings.Clone.
-/
import Derived.Test.YtlihkmhhfnkkoaaDoorWLex4
import Derived.Test.YtlihkmhhfnkkoaaDoorWParse4
import Derived.Lib.AtoiErrMem
import Derived.Shelf.Strconv.ErrVarAll
namespace Go.Proofs.YtlihkmhhfnkkoaaDoor
open Go.RowKit Lx
set_option linter.unusedVariables false
set_option linter.unusedSimpArgs false

/-- The two error values stand. -/
def Ev (w : World) : Prop := (∃ t q, w.var? Tryd.prog "strconv.ErrSyntax" = some #[.iface t q]) ∧ ∃ t q, w.var? Tryd.prog "strconv.ErrRange" = some #[.iface t q]
theorem var_below {w w' : World} {name : String} {g : Nat} {cs : Array Value} (hg : Tryd.prog.globalNamed name = some g) (h : w.var? Tryd.prog name = some cs) (hb : Below w.heap.size w w') : w'.var? Tryd.prog name = some cs := by
  unfold World.var? at h ⊢
  rw [hg] at h ⊢
  simp only [Option.bind_some] at h ⊢
  have hlt : g < w.heap.size := by
    rcases Nat.lt_or_ge g w.heap.size with h' | h'
    · exact h'
    · rw [Array.getElem?_eq_none h'] at h; cases h
  rw [hb.block _ hlt]
  exact h
theorem ev_below {w w' : World} (h : Ev w) (hb : Below w.heap.size w w') : Ev w' := by
  obtain ⟨⟨t, q, h1⟩, t', q', h2⟩ := h
  exact ⟨⟨t, q, var_below (g := 2) (by kernel_rfl) h1 hb⟩, t', q', var_below (g := 3) (by kernel_rfl) h2 hb⟩
theorem atoi_okS (s : ByteArray) (hl : s.size ≤ 65536) (v : Int) (h : Lib.atoiAll (lst s) = .ok v) (w : World) :
    Calls Tryd.prog 42 #[.string s] w fun e w' => e = .returned (.tuple #[.int .i64 v, .nilIface]) ∧ Below w.heap.size w w' := by
  refine (Tryd.strconv_Atoi_ok s (by omega) v h w).mono ?_
  rintro e w' ⟨rfl, hw⟩
  refine ⟨rfl, ?_⟩
  rcases hw with rfl | ⟨t, rfl⟩
  · exact Below.refl _ _
  · exact Lib.bytesWorld_below _ _ _
theorem atoi_badS (s : ByteArray) (hl : s.size ≤ 65536) (h : ∀ v, Lib.atoiAll (lst s) ≠ .ok v) (w : World) (hE : Ev w) :
    Calls Tryd.prog 42 #[.string s] w fun e w' => ∃ x t q, e = .returned (.tuple #[.int .i64 x, .iface t q]) ∧ Below w.heap.size w w' := by
  obtain ⟨⟨t, q, h1⟩, t', q', h2⟩ := hE
  cases hA : Lib.atoiAll (lst s)
  · rename_i v; exact absurd hA (h v)
  · refine (Any.strconv_Atoi_syntax_var Tryd.laysC172 s (by omega) hA t q w h1).mono ?_
    rintro e w' ⟨N, rfl, _, _, hb⟩
    exact ⟨_, _, _, rfl, hb⟩
  · refine (Tryd.strconv_Atoi_range_var s (by omega) hA t' q' w h2).mono ?_
    rintro e w' ⟨N, rfl, _, _, hb⟩
    exact ⟨_, _, _, rfl, hb⟩
def atoO (l : L) : Option Int := match Lib.atoiAll l with | .ok v => some v | _ => none
theorem numO_if {l : L} (h : ¬ ((l.headD 0).toNat = 48 ∧ 1 < l.length)) : numO l = if allD l = true then atoO l else none := by
  unfold numO; rw [if_neg h]; rfl
def NumP (l : L) (e : Ending) : Prop := ∃ v, e = .returned (.tuple #[.int .i64 v, .bool (numO l).isSome]) ∧ ∀ n, numO l = some n → v = n
theorem numP_no {l : L} (h : numO l = none) (v : Int) : NumP l (.returned (.tuple #[.int .i64 v, .bool false])) := ⟨v, by rw [h]; rfl, fun n hn => by rw [h] at hn; cases hn⟩
theorem numP_yes {l : L} {n : Int} (h : numO l = some n) : NumP l (.returned (.tuple #[.int .i64 n, .bool true])) := ⟨n, by rw [h]; rfl, fun m hn => by rw [h] at hn; injection hn⟩
theorem allD_of {l : L} (h : ∀ i, i < l.length → dgN (nthN l i) = true) : allD l = true := by
  unfold allD
  rw [List.all_eq_true]
  intro x hx
  obtain ⟨i, hi, rfl⟩ := List.mem_iff_getElem.1 hx
  have := h i hi
  simpa [nthN, List.getD, hi] using this
theorem allD_not {l : L} {i : Nat} (hi : i < l.length) (h : dgN (nthN l i) = false) : allD l = false := by
  unfold allD
  rw [List.all_eq_false]
  refine ⟨l[i], List.getElem_mem hi, ?_⟩
  have e : nthN l i = (l[i]).toNat := by simp [nthN, List.getD, hi]
  rw [e] at h
  rw [h]; simp
theorem head_lst {s : ByteArray} (h0 : 0 < s.size) : (List.headD (lst s) 0).toNat = s[0].toNat := by
  rw [← nth_lst h0]
  cases hl : lst s <;> rfl

set_option maxHeartbeats 1000000 in
theorem numberOf_any (s : ByteArray) (w : World) (h1 : 1 ≤ s.size) (hs : s.size ≤ 65536) (hE : Ev w) :
    Calls Tryd.prog 26 #[.string s] w fun e w' => NumP (lst s) e ∧ Below w.heap.size w w' := by
  have h0 : 0 < s.size := by omega
  have EH := head_lst h0
  by_cases hz : s[0].toNat = 48 ∧ 1 < s.size
  · have Y := Lib.hid (numP_no (l := lst s) (by unfold numO; rw [if_pos (by rw [EH, lst_len]; exact hz)]) 0)
    have z1 : ((s[0].toNat : Int) == 48) = true := by rw [hz.1]; rfl
    have z1' : (s[0].toNat : Int) = 48 := by omega
    have z2 : (1 : Int) < (s.size : Int) := by omega
    clear EH hz
    go_enter Tryd.func26, Tryd.ntmps26
    go_wp2
    go_ret2
    exact ⟨Y.out, Below.refl _ _⟩
  · have N0 := Lib.hid (p := numO (lst s) = if allD (lst s) = true then atoO (lst s) else none) (numO_if (by rw [EH, lst_len]; exact hz))
    have YN := Lib.hid (p := ∀ k, k < s.size → dgN (nthN (lst s) k) = false → NumP (lst s) (.returned (.tuple #[.int .i64 0, .bool false]))) (fun k hk hd => numP_no (by rw [N0.out, if_neg (by rw [allD_not (by rw [lst_len]; exact hk) hd]; simp)]) 0)
    have YA := Lib.hid (p := (∀ i, i < s.size → dgN (nthN (lst s) i) = true) → numO (lst s) = atoO (lst s)) (fun h => by rw [N0.out, if_pos (allD_of (by rw [lst_len]; exact h))])
    have HE := Lib.hid hE
    have zz : ((s[0].toNat : Int) == 48) = false ∨ (((s[0].toNat : Int) == 48) = true ∧ ¬ (1 : Int) < (s.size : Int)) := by
      by_cases hq : s[0].toNat = 48
      · exact .inr ⟨by rw [hq]; rfl, by omega⟩
      · exact .inl (by rw [beq_eq_false_iff_ne]; omega)
    clear EH hz hE
    rcases zz with z1 | ⟨z1, z2⟩
    all_goals
      go_enter Tryd.func26, Tryd.ntmps26
      go_wp2
      go_loopw [17] (fun t wr => ∃ k : Nat, k ≤ s.size ∧ t = .int .i64 k ∧ RowKit.Hid (∀ i, i < k → dgN (nthN (lst s) i) = true) ∧ wr = w) (fun t _ => s.size - intV t)
      case atStart => exact ⟨0, by omega, rfl, fun i hi => absurd hi (by omega), rfl⟩
      case round =>
        obtain ⟨k, hk, rfl, hN, rfl⟩ := hrel
        by_cases hlt : k < s.size
        · have kc : (k : Int) < (s.size : Int) := by omega
          have E := nth_lst hlt
          have KD := Lib.hid (fun W => isDigit_any (s[k].toNat) W)
          have kw : IntKind.i64.wrap ((k : Int) + 1) = (k : Int) + 1 := by simp [IntKind.wrap, IntKind.bits, IntKind.signed]; omega
          cases hd : dgN (s[k].toNat) with
          | true =>
            rw [hd] at KD
            have NX := Lib.hid (p := ∀ i, i < k + 1 → dgN (nthN (lst s) i) = true) (fun i hi => by
              rcases (show i < k ∨ i = k by omega) with q | q
              · exact hN.out i q
              · rw [q, E]; exact hd)
            have ME := Lib.hid (p := s.size - intV (.int .i64 ((k : Int) + 1)) < s.size - intV (.int .i64 (k : Int))) (by simp only [intV]; omega)
            clear E hd hN z1
            go_wp2_with (go_at_call 11; refine (KD.out _).mono ?_; rintro e w1 ⟨rfl, rfl⟩)
            go_roundw
            case rel => exact ⟨k + 1, by omega, by simp, NX.out, trivial⟩
            case measure => exact ME.out
          | false =>
            rw [hd] at KD
            have Y := Lib.hid (YN.out k hlt (by rw [E]; exact hd))
            clear E hd hN z1
            go_wp2_with (go_at_call 11; refine (KD.out _).mono ?_; rintro e w1 ⟨rfl, rfl⟩)
            go_ret2
            exact ⟨Y.out, Below.refl _ _⟩
        · obtain rfl : k = s.size := by omega
          have A := YA.out hN.out
          clear hN z1
          by_cases hok : ∃ v, Lib.atoiAll (lst s) = .ok v
          · obtain ⟨v, hv⟩ := hok
            unfold atoO at A; rw [hv] at A
            have Y := Lib.hid (numP_yes A)
            have KA := Lib.hid (fun W => atoi_okS s hs v hv W)
            clear A hv
            go_wp2_with (go_at_call 42; refine (KA.out _).mono ?_; rintro e w1 ⟨rfl, hb⟩; have B1 := Lib.hid hb; clear hb)
            go_quiet (fail)
            go_wp2
            go_ret2
            exact ⟨Y.out, ⟨B1.out.os, B1.out.tape, B1.out.output, B1.out.size, B1.out.block⟩⟩
          · have hb : ∀ v, Lib.atoiAll (lst s) ≠ .ok v := fun v e => hok ⟨v, e⟩
            have A0 : numO (lst s) = none := by
              rw [A]; unfold atoO; split
              · rename_i v hv; exact absurd hv (hb v)
              · rfl
            have Y := Lib.hid (fun x => numP_no A0 x)
            have KA := Lib.hid (fun W hE => atoi_badS s hs hb W hE)
            clear A A0 hb hok
            go_wp2_with (go_at_call 42; refine (KA.out _ HE.out).mono ?_; rintro e w1 ⟨x, t, q, rfl, hb⟩; have B1 := Lib.hid hb; clear hb)
            go_quiet (fail)
            go_wp2
            go_ret2
            exact ⟨Y.out _, ⟨B1.out.os, B1.out.tape, B1.out.output, B1.out.size, B1.out.block⟩⟩
end Go.Proofs.YtlihkmhhfnkkoaaDoor
