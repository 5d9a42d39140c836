import Derived.Test.YtldplmchgmoopaaDoorXAD
import Derived.Lib.AtoiErrMem
import Derived.Lib.Hide
import Derived.Test.YtldplmchgmoopaaDoorXAE
import Derived.Test.YtldplmchgmoopaaDoorXAF
import Derived.Test.YtldplmchgmoopaaDoorXAG
import Derived.Laws.MakeOwn
import Derived.Laws.CopyOwn
import Derived.Maps.OwnSet
import Derived.Deep.RegionHeld3
namespace Go.Proofs.YtldplmchgmoopaaDoor
open Go.RowKit
set_option linter.unusedVariables false
set_option linter.unusedSimpArgs false

set_option maxHeartbeats 1000000 in
set_option maxRecDepth 100000 in
theorem withoutStop_any (l : List UInt8) (p : Nat) (hp : p ≤ 18) (hl : l.length ≤ 21) (w : World) :
    Calls Tryd.prog 53 #[.string ⟨l.toArray⟩, .int .i64 p] w fun e w' => e = .returned (.string ⟨(wst p l).toArray⟩) ∧ Below w.heap.size w w' := by
  have sz : (⟨l.toArray⟩ : ByteArray).size = l.length := by simp [ByteArray.size]
  by_cases h0 : p = 0
  · subst h0
    rw [show wst 0 l = l by unfold wst; rw [if_pos (.inl rfl)]]
    go_enter Tryd.func53, Tryd.ntmps53
    go_wp2
    go_ret
    exact ⟨rfl, Below.refl _ _⟩
  · have h0' : ¬ (p : Int) = 0 := by omega
    by_cases h1 : l.length < p + 1
    · rw [show wst p l = l by unfold wst; rw [if_pos (.inr h1)]]
      have h2 : (l.length : Int) - p - 1 < 0 := by omega
      go_enter Tryd.func53, Tryd.ntmps53
      go_wp2
      go_ret
      exact ⟨rfl, Below.refl _ _⟩
    · rw [show wst p l = l.take (l.length - p - 1) ++ l.drop (l.length - p) by unfold wst; rw [if_neg (by omega)]]
      have h2 : ¬ (l.length : Int) - p - 1 < 0 := by omega
      have s1 := cutH l ((l.length : Int) - p - 1) (by omega) (by omega)
      have s2 := cutL l ((l.length : Int) - p) (by omega) (by omega)
      rw [show ((l.length : Int) - p - 1).toNat = l.length - p - 1 by omega] at s1
      rw [show ((l.length : Int) - p).toNat = l.length - p by omega] at s2
      have n1 : (l.take (l.length - p - 1)).length ≤ 40 := by simp; omega
      have n2 : (l.drop (l.length - p)).length ≤ 40 := by simp; omega
      generalize l.take (l.length - p - 1) = l1 at *
      generalize l.drop (l.length - p) = l2 at *
      have r1 := catS l1 l2 (by omega)
      generalize l1 ++ l2 = l3 at *
      have hw : IntKind.i64.wrap ((l.length : Int) - p - 1 + 1) = (l.length : Int) - p - 1 + 1 := by simp [IntKind.wrap, IntKind.bits, IntKind.signed]; omega
      have hw2 : IntKind.i64.wrap ((l.length : Int) - p) = (l.length : Int) - p := by simp [IntKind.wrap, IntKind.bits, IntKind.signed]; omega
      go_enter Tryd.func53, Tryd.ntmps53
      go_wp2
      go_region_held3 (fun _ => True) (exact trivial) (fail)
      all_goals
        go_wp2
        go_ret
        exact ⟨rfl, (Below.refl _ _).drew⟩

/-- The two error values stand. -/
def Ev (w : World) : Prop := (∃ t q, w.var? Tryd.prog "strconv.ErrSyntax" = some #[.iface t q]) ∧ ∃ t q, w.var? Tryd.prog "strconv.ErrRange" = some #[.iface t q]
theorem var_below {w w' : World} {name : String} {g : Nat} {cs : Array Value} (hg : Tryd.prog.globalNamed name = some g) (h : w.var? Tryd.prog name = some cs) (hb : Below w.heap.size w w') : w'.var? Tryd.prog name = some cs := by
  unfold World.var? at h ⊢
  rw [hg] at h ⊢
  simp only [Option.bind_some] at h ⊢
  have hlt : g < w.heap.size := by
    rcases Nat.lt_or_ge g w.heap.size with h' | h'
    · exact h'
    · rw [Array.getElem?_eq_none h'] at h; cases h
  rw [hb.block _ hlt]
  exact h
theorem ev_below {w w' : World} (h : Ev w) (hb : Below w.heap.size w w') : Ev w' := by
  obtain ⟨⟨t, q, h1⟩, t', q', h2⟩ := h
  exact ⟨⟨t, q, var_below (g := 2) (by kernel_rfl) h1 hb⟩, t', q', var_below (g := 3) (by kernel_rfl) h2 hb⟩
theorem pows_below {w w' : World} (h : Pows w) (hb : Below w.heap.size w w') : Pows w' := by
  unfold Pows Lib.TabIs at h ⊢
  exact var_below (g := 4) (by kernel_rfl) h hb

theorem atoi_ok (l : List UInt8) (hl : l.length ≤ 21) (v : Int) (h : Lib.atoiAll l = .ok v) (w : World) :
    Calls Tryd.prog 52 #[.string ⟨l.toArray⟩] w fun e w' => e = .returned (.tuple #[.int .i64 v, .nilIface]) ∧ Below w.heap.size w w' := by
  refine (Tryd.strconv_Atoi_ok ⟨l.toArray⟩ (by simp [ByteArray.size]; omega) v (by simpa using h) w).mono ?_
  rintro e w' ⟨rfl, hw⟩
  refine ⟨rfl, ?_⟩
  rcases hw with rfl | ⟨t, rfl⟩
  · exact Below.refl _ _
  · exact Lib.bytesWorld_below _ _ _
theorem atoi_bad (l : List UInt8) (hl : l.length ≤ 21) (h : ∀ v, Lib.atoiAll l ≠ .ok v) (w : World) (hE : Ev w) :
    Calls Tryd.prog 52 #[.string ⟨l.toArray⟩] w fun e w' => ∃ x t q, e = .returned (.tuple #[.int .i64 x, .iface t q]) ∧ Below w.heap.size w w' := by
  obtain ⟨⟨t, q, h1⟩, t', q', h2⟩ := hE
  cases hA : Lib.atoiAll l
  · rename_i v; exact absurd hA (h v)
  · refine (Any.strconv_Atoi_syntax_var Tryd.laysC172 ⟨l.toArray⟩ (by simp [ByteArray.size]; omega) (by simpa using hA) t q w h1).mono ?_
    rintro e w' ⟨N, rfl, _, _, hb⟩
    exact ⟨_, _, _, rfl, hb⟩
  · refine (Tryd.strconv_Atoi_range_var ⟨l.toArray⟩ (by simp [ByteArray.size]; omega) (by simpa using hA) t' q' w h2).mono ?_
    rintro e w' ⟨N, rfl, _, _, hb⟩
    exact ⟨_, _, _, rfl, hb⟩

theorem atoi_inR {l : List UInt8} {v : Int} (h : Lib.atoiAll l = .ok v) : inR v := by
  unfold inR
  cases l with
  | nil => simp [Lib.atoiAll] at h
  | cons c r =>
    simp only [Lib.atoiAll] at h
    split at h
    · cases h
    · cases h
    · split at h
      · cases h
      · split at h
        · cases h
        · injection h with h
          split at h <;> omega

/-- What Parse answers. -/
def prsV (p : Nat) (l : List UInt8) : Int := (prs p l).getD 0
def prsE (p : Nat) (l : List UInt8) : Int := match prs p l with | some _ => 0 | none => 11

theorem dec_dtx (v : Int) (hv : inR v) (p : Nat) (hp : p ≤ 18) (w : World) (ht : Pows w) :
    Calls Tryd.prog 54 #[.int .i64 v, .int .i64 p] w fun e w' => e = .returned (.string ⟨(dtx v p).toArray⟩) ∧ Below w.heap.size w w' :=
  decimal_any v hv (absI v).toNat (by have := absI_nonneg v; omega) p hp w ht

set_option maxHeartbeats 1000000 in
theorem parse_in (l : List UInt8) (p : Nat) (hp : p ≤ 18) (hl : l.length ≤ 21) (w : World) (ht : Pows w) (hE : Ev w) :
    Calls Tryd.prog 45 #[.string ⟨l.toArray⟩, .int .i64 p] w fun e w' => e = .returned (.tuple #[.int .i64 (prsV p l), .int .i64 (prsE p l)]) ∧ Below w.heap.size w w' := by
  have sz : ((⟨l.toArray⟩ : ByteArray).size : Int) ≤ 21 := by simp [ByteArray.size]; omega
  have F := veil (fit_any (p : Int))
  rw [decide_eq_true (show (0 : Int) ≤ p ∧ (p : Int) ≤ 18 by omega)] at F
  have WS := veil (fun w => withoutStop_any l p hp hl w)
  have wl := wst_len p l
  by_cases hok : ∃ v, Lib.atoiAll (wst p l) = .ok v
  · obtain ⟨v, hv⟩ := hok
    have AT := veil (fun w => atoi_ok (wst p l) (by omega) v hv w)
    have DT := veil (fun w ht => dec_dtx v (atoi_inR hv) p hp w ht)
    by_cases hd : dtx v p = l
    · have e1 : prsV p l = v := by unfold prsV prs; rw [hv]; simp [hd]
      have e2 : prsE p l = 0 := by unfold prsE prs; rw [hv]; simp [hd]
      rw [e1, e2]; clear e1 e2
      rw [hd] at DT
      generalize wst p l = l1 at *
      generalize (⟨l.toArray⟩ : ByteArray) = S at *
      clear hd hv wl
      go_enter Tryd.func45, Tryd.ntmps45
      go_wp2_with (first
        | (go_at_call 51; refine (unveil F _).mono ?_; rintro e w' ⟨rfl, rfl⟩)
        | (go_at_call 53; refine (unveil WS _).mono ?_; rintro e w1 ⟨rfl, b1⟩)
        | (go_at_call 52; refine (unveil AT _).mono ?_; rintro e w2 ⟨rfl, h2⟩; have b2 := b1.trans (h2.mono b1.size))
        | (go_at_call 54; refine (unveil DT _ (pows_below ht b2)).mono ?_; rintro e w3 ⟨rfl, h3⟩; have b3 := b2.trans (h3.mono b2.size)))
      go_ret2
      exact ⟨rfl, b3⟩
    · have e1 : prsV p l = 0 := by unfold prsV prs; rw [hv]; simp [hd]
      have e2 : prsE p l = 11 := by unfold prsE prs; rw [hv]; simp [hd]
      rw [e1, e2]; clear e1 e2
      have ne : ((⟨(dtx v p).toArray⟩ : ByteArray).toList == (⟨l.toArray⟩ : ByteArray).toList) = false := by
        rw [ByteArray.toList_mk, ByteArray.toList_mk]; simpa using hd
      generalize wst p l = l1 at *
      generalize (⟨l.toArray⟩ : ByteArray) = S at *
      generalize (⟨(dtx v p).toArray⟩ : ByteArray) = T at *
      clear hd hv wl
      go_enter Tryd.func45, Tryd.ntmps45
      go_wp2_with (first
        | (go_at_call 51; refine (unveil F _).mono ?_; rintro e w' ⟨rfl, rfl⟩)
        | (go_at_call 53; refine (unveil WS _).mono ?_; rintro e w1 ⟨rfl, b1⟩)
        | (go_at_call 52; refine (unveil AT _).mono ?_; rintro e w2 ⟨rfl, h2⟩; have b2 := b1.trans (h2.mono b1.size))
        | (go_at_call 54; refine (unveil DT _ (pows_below ht b2)).mono ?_; rintro e w3 ⟨rfl, h3⟩; have b3 := b2.trans (h3.mono b2.size)))
      go_ret2
      exact ⟨rfl, b3⟩
  · have hb : ∀ v, Lib.atoiAll (wst p l) ≠ .ok v := fun v e => hok ⟨v, e⟩
    have AT := veil (fun w hE => atoi_bad (wst p l) (by omega) hb w hE)
    have e0 : prs p l = none := by
      unfold prs; split
      · rename_i v hv; exact absurd hv (hb v)
      · rfl
    have e1 : prsV p l = 0 := by unfold prsV; rw [e0]; rfl
    have e2 : prsE p l = 11 := by unfold prsE; rw [e0]
    rw [e1, e2]; clear e1 e2 e0 hb hok
    generalize wst p l = l1 at *
    generalize (⟨l.toArray⟩ : ByteArray) = S at *
    clear wl
    go_enter Tryd.func45, Tryd.ntmps45
    go_wp2_with (first
      | (go_at_call 51; refine (unveil F _).mono ?_; rintro e w' ⟨rfl, rfl⟩)
      | (go_at_call 53; refine (unveil WS _).mono ?_; rintro e w1 ⟨rfl, b1⟩)
      | (go_at_call 52; refine (unveil AT _ (ev_below hE b1)).mono ?_; rintro e w2 ⟨x, t, q, rfl, h2⟩; have b2 := b1.trans (h2.mono b1.size)))
    go_ret2
    exact ⟨rfl, b2⟩

theorem parse_long (s : ByteArray) (p : Nat) (hp : p ≤ 18) (hl : ¬ s.size ≤ 21) (hm : s.size ≤ 9223372036854775807) (w : World) :
    Calls Tryd.prog 45 #[.string s, .int .i64 p] w fun e w' => e = .returned (.tuple #[.int .i64 0, .int .i64 11]) ∧ w' = w := by
  have F := veil (fit_any (p : Int))
  rw [decide_eq_true (show (0 : Int) ≤ p ∧ (p : Int) ≤ 18 by omega)] at F
  have sz : (21 : Int) < s.size := by omega
  go_enter Tryd.func45, Tryd.ntmps45
  go_wp2_with (go_at_call 51; refine (unveil F _).mono ?_; rintro e w' ⟨rfl, rfl⟩)
  go_ret2
  exact ⟨rfl, rfl⟩
end Go.Proofs.YtldplmchgmoopaaDoor

namespace Go.Proofs.YtldplmchgmoopaaDoor
open Go.RowKit
set_option linter.unusedVariables false
set_option linter.unusedSimpArgs false

def zCl : Cl := ⟨false, 0⟩
def Cl.two (c : Cl) : List Value := [.bool c.h, .int .i64 c.v]
def clv (l : List Cl) : List Value := l.flatMap Cl.two
theorem clv_len (l : List Cl) : (clv l).length = l.length * 2 := by
  induction l with
  | nil => rfl
  | cons p r ih => simp [clv, Cl.two] at ih ⊢; omega
theorem clv_app (a b : List Cl) : clv (a ++ b) = clv a ++ clv b := by simp [clv]
theorem clv_at : ∀ (l : List Cl) (i : Nat), i < l.length → ∀ j, j < 2 → (clv l)[i * 2 + j]? = (l.getD i default).two[j]?
  | [], i, h, _, _ => by simp at h
  | g :: gs, 0, h, j, hj => by
    show (g.two ++ clv gs)[0 * 2 + j]? = _
    rw [Nat.zero_mul, Nat.zero_add, List.getElem?_append_left (by simp [Cl.two]; omega)]
    rfl
  | g :: gs, i + 1, h, j, hj => by
    have ih := clv_at gs i (by simpa using h) j hj
    show (g.two ++ clv gs)[(i + 1) * 2 + j]? = _
    rw [List.getElem?_append_right (by simp [Cl.two]; omega)]
    rw [show (i + 1) * 2 + j - g.two.length = i * 2 + j by simp [Cl.two]; omega, ih]
    rfl
theorem clv_set : ∀ (gs : List Cl) (i : Nat) (f : Cl), i < gs.length → ((clv gs).set (i * 2) (.bool f.h)).set (i * 2 + 1) (.int .i64 f.v) = clv (gs.set i f)
  | [], i, f, h => by simp at h
  | g :: gs, 0, f, h => rfl
  | g :: gs, i + 1, f, h => by
    have ih := clv_set gs i f (by simpa using h)
    show ((g.two ++ clv gs).set ((i + 1) * 2) _).set ((i + 1) * 2 + 1) _ = g.two ++ clv (gs.set i f)
    have e : g.two.length = 2 := rfl
    rw [List.set_append_right _ _ (by omega), List.set_append_right _ _ (by omega), e, show (i + 1) * 2 - 2 = i * 2 by omega, show (i + 1) * 2 + 1 - 2 = i * 2 + 1 by omega, ih]
theorem clv_one (l : List Cl) : ∀ v ∈ clv l, v.oneCell' = true := by
  intro v hv
  unfold clv at hv
  obtain ⟨f, _, hv⟩ := List.mem_flatMap.1 hv
  simp [Cl.two] at hv
  rcases hv with rfl | rfl <;> rfl
theorem made_clv (N : Nat) : (madeCells #[.bool false, .int .i64 0] (N * 2)).toList = clv (List.replicate N zCl) := by
  apply List.ext_getElem?
  intro k
  by_cases hk : k < N * 2
  · have e : k = (k / 2) * 2 + k % 2 := by omega
    have h3 : k % 2 < 2 := Nat.mod_lt _ (by omega)
    rw [e, clv_at _ (k / 2) (by simp; omega) (k % 2) h3, ← e]
    have hr : (List.replicate N zCl).getD (k / 2) default = zCl := by simp [List.getD, List.getElem?_replicate, show k / 2 < N by omega]
    rw [hr]
    unfold madeCells
    simp only [Array.toList_map, Array.toList_range, List.getElem?_map, List.getElem?_range hk, Option.map_some]
    rcases (show k % 2 = 0 ∨ k % 2 = 1 by omega) with h | h <;> rw [show (#[Value.bool false, .int .i64 0] : Array Value).size = 2 from rfl, h] <;> rfl
  · rw [List.getElem?_eq_none (by simp [madeCells]; omega), List.getElem?_eq_none (by rw [clv_len]; simp; omega)]
theorem make_cellsN (n : Nat) (hn : n ≤ 4398046511100) (W : World) : (Instr.makeSlice 50 (.int .i64 (n : Int)) (.int .i64 (n : Int))).run Tryd.prog W = .ok (.slice (some ⟨W.heap.size, 0, none⟩) n n) (W.alloc (.cells (madeCells #[.bool false, .int .i64 0] (n * 2)) 65)) := by
  obtain ⟨i0, hi, hz0, hz1, hz2⟩ := info_parts infoC
  have := run_make (P := Tryd.prog) W 50 65 i0 _ Tryd.underlying50 hi hz0 .i64 .i64 n n (by omega) (by omega) (by rw [hz2]; omega) (by omega)
  rw [hz1] at this
  simpa [Value.cells] using this
/-- copy(f, l): so many cells as the shorter of the two has. -/
theorem copy_cells (a : Option Addr) (n m cap : Nat) (fs : List Cl) (w : World) (h : RC w a m fs) (hn : n ≤ 4398046511100) :
    ∀ ty, (Builtin.copy_ #[50, 50] ty #[.slice (some ⟨w.heap.size, 0, none⟩) n n, .slice a m cap]).run Tryd.prog (w.alloc (.cells (madeCells #[.bool false, .int .i64 0] (n * 2)) 65)) = .ok (goInt (Nat.min m n)) (w.alloc (.cells (clv (fs.take n ++ List.replicate (n - m) zCl)).toArray 65)) := by
  obtain ⟨i0, hi, hz0, hz1, hz2⟩ := info_parts infoC
  obtain ⟨h1, h2, h2b, h3⟩ := h
  have hu : Tryd.prog.underlying 50 = some (.slice 65) := Tryd.underlying50
  have hg : (w.alloc (.cells (madeCells #[.bool false, .int .i64 0] (n * 2)) 65)).heap[w.heap.size]? = some (.cells (madeCells #[.bool false, .int .i64 0] (n * 2)) 65 (0, 0)) := by
    show (w.heap.push _)[w.heap.size]? = _
    simp
  rcases h3 with h3 | ⟨b, o, rfl, hb, hc⟩
  · subst h3
    have hz : fs = [] := List.length_eq_zero_iff.1 h1
    subst hz
    intro ty
    have em : madeCells #[Value.bool false, .int .i64 0] (n * 2) = (clv (([] : List Cl).take n ++ List.replicate (n - 0) zCl)).toArray := Array.ext' (by rw [made_clv]; simp)
    rw [← em]
    cases a <;> simp [Builtin.copy_, run_underlying hu, Builtin.lenOf, Builtin.firstCells, sizeOf, typeInfo, hi, hz1, storeCells, loadCells, loadCellsFrom]
  · obtain ⟨k, hk⟩ : ∃ k, k = Nat.min m n := ⟨_, rfl⟩
    have hkm : k ≤ m := by rw [hk]; exact Nat.min_le_left _ _
    have hkn : k ≤ n := by rw [hk]; exact Nat.min_le_right _ _
    have tk : (fs.take n) = fs.take k := by
      rcases Nat.le_total m n with z | z
      · rw [show k = m by rw [hk]; exact Nat.min_eq_left z, List.take_of_length_le (by omega), List.take_of_length_le (by omega)]
      · rw [show k = n by rw [hk]; exact Nat.min_eq_right z]
    have rest : n - m = n - k := by
      rcases Nat.le_total m n with z | z
      · rw [show k = m by rw [hk]; exact Nat.min_eq_left z]
      · rw [show k = n by rw [hk]; exact Nat.min_eq_right z]; omega
    have hlk : (fs.take k).length = k := by simp; omega
    have hlen : (clv (fs.take k)).length = k * 2 := by rw [clv_len, hlk]
    have hl := run_loadCells_list (P := Tryd.prog) (w.alloc (.cells (madeCells #[.bool false, .int .i64 0] (n * 2)) 65)) ⟨b, o, none⟩ (clv (fs.take k)) (by
      intro j v hj
      have hjn : j < k * 2 := by
        refine Nat.lt_of_not_le fun hc => ?_
        rw [List.getElem?_eq_none (by omega)] at hj
        cases hj
      rw [Go.Addr.add_lit, (((Below.refl w.heap.size w).alloc (Nat.le_refl _) _).cell (p := ⟨b, o + j, none⟩) hb)]
      have e : j = (j / 2) * 2 + j % 2 := by omega
      rw [← hj]
      obtain ⟨p0, p1⟩ := hc (j / 2) (by omega)
      have hat := clv_at (fs.take k) (j / 2) (by omega) (j % 2) (Nat.mod_lt _ (by omega))
      have ge : (fs.take k).getD (j / 2) default = fs.getD (j / 2) default := by simp [List.getD, List.getElem?_take, show j / 2 < k by omega]
      rw [← e, ge] at hat
      rw [hat]
      rcases (show j % 2 = 0 ∨ j % 2 = 1 by omega) with q | q
      · rw [q, show o + j = o + j / 2 * 2 by omega]; exact p0
      · rw [q, show o + j = o + j / 2 * 2 + 1 by omega]; exact p1)
    have hst := run_storeCells_at Tryd.prog w.heap.size 0 65 (clv (fs.take k)) 0 _ _ hg (by rw [hlen, size_madeCells]; omega) (clv_one _)
    rw [hlen] at hl
    intro ty
    have rep : clv (List.replicate n zCl) = clv (List.replicate k zCl) ++ clv (List.replicate (n - k) zCl) := by rw [← clv_app, List.replicate_append_replicate, show k + (n - k) = n by omega]
    have em : ((madeCells #[Value.bool false, .int .i64 0] (n * 2)).toList.take (0 + 0) ++ clv (fs.take k) ++ (madeCells #[Value.bool false, .int .i64 0] (n * 2)).toList.drop (0 + 0 + (clv (fs.take k)).length)).toArray = (clv (fs.take n ++ List.replicate (n - m) zCl)).toArray := by
      refine congrArg List.toArray ?_
      rw [made_clv, rep, hlen, tk, rest, clv_app]
      simp only [Nat.add_zero, List.take_zero, List.nil_append, Nat.zero_add]
      rw [List.drop_left' (by rw [clv_len]; simp)]
    rw [em, setRow_new] at hst
    simp [Builtin.copy_, run_underlying hu, Builtin.lenOf, Builtin.firstCells, sizeOf, typeInfo, hi, hz1, ← hk, hl, hst]
set_option maxHeartbeats 1000000 in
theorem newRow_any (a : Option Addr) (n m cap : Nat) (fs : List Cl) (w : World) (h : RC w a m fs) (hn : n ≤ 4398046511100) :
    Calls Tryd.prog 34 #[.slice a m cap, .int .i64 (n : Int)] w fun e w' => e = .returned (.slice (some ⟨w.heap.size, 0, none⟩) n n) ∧ w' = w.alloc (.cells (clv (fs.take n ++ List.replicate (n - m) zCl)).toArray 65) := by
  have mk := make_cellsN n hn
  have cp := copy_cells a n m cap fs w h hn
  clear h
  go_enter Tryd.func34, Tryd.ntmps34
  go_wp2
  go_ret
  exact ⟨rfl, rfl⟩
theorem cloneT_any (s : ByteArray) (hs : s.size ≤ 281474976710656) (w : World) : Calls Tryd.prog 31 #[.string s] w fun e w' => e = .returned (.string s) ∧ Below w.heap.size w w' := by
  have K := Lib.hid (fun W => Tryd.stringslite_Clone s W hs)
  go_enter Tryd.func31, Tryd.ntmps31
  go_wp2_with (go_at_call 44; refine (K.out _).mono ?_; rintro e w1 ⟨rfl, h1⟩; have B := Lib.hid h1; clear h1)
  go_ret
  exact ⟨rfl, B.out⟩
theorem prs_long {l : List UInt8} (h : ¬ l.length ≤ 21) : prs 0 l = none := by
  cases q : prs 0 l with
  | none => rfl
  | some v =>
    have := dtx_len v (prs_inR q) 0 (by omega)
    rw [(prs_some q).1] at this
    exact absurd this h
/-- What cellOf answers. -/
def cellE (u : ByteArray) : Ending := match cellV u with
  | some c => .returned (.tuple #[.agg #[.bool c.h, .int .i64 c.v], .bool true])
  | none => .returned (.tuple #[.agg #[.bool false, .int .i64 0], .bool false])
theorem list_of (u : ByteArray) : u.toList = u.data.toList := by
  obtain ⟨⟨l⟩⟩ := u
  exact ByteArray.toList_mk l
theorem cellOf_all (u : ByteArray) (hu : u.size ≤ 1048576) (w : World) (ht : Pows w) (hE : Ev w) :
    Calls Tryd.prog 33 #[.string u] w fun e w' => e = cellE u ∧ Below w.heap.size w w' := by
  have hl : u.data.toList.length = u.size := Array.length_toList
  have K : ∀ W, Below w.heap.size w W → Calls Tryd.prog 45 #[.string u, .int .i64 0] W fun e w' => e = .returned (.tuple #[.int .i64 (prsV 0 u.data.toList), .int .i64 (prsE 0 u.data.toList)]) ∧ Below W.heap.size W w' := fun W b => by
    by_cases q : u.size ≤ 21
    · have := parse_in u.data.toList 0 (by omega) (by omega) W (pows_below ht b) (ev_below hE b)
      rwa [show (⟨u.data.toList.toArray⟩ : ByteArray) = u from sOf_list u] at this
    · have e : prs 0 u.data.toList = none := prs_long (by omega)
      have e1 : prsV 0 u.data.toList = 0 := by unfold prsV; rw [e]; rfl
      have e2 : prsE 0 u.data.toList = 11 := by unfold prsE; rw [e]
      rw [e1, e2]
      refine Calls.mono (parse_long u 0 (by omega) q (by omega) W) ?_
      rintro e w' ⟨rfl, rfl⟩
      exact ⟨rfl, Below.refl _ _⟩
  have := cellOf_any u _ _ w K
  have ee : celE u (prsV 0 u.data.toList) (prsE 0 u.data.toList) = cellE u := by
    unfold celE cellE cellV
    rw [list_of]
    by_cases q : u.data.toList = [45]
    · rw [if_pos (by rw [q]; rfl), if_pos q]
    · rw [if_neg (by simpa using q), if_neg q]
      unfold prsV prsE
      cases prs 0 u.data.toList with
      | none => simp
      | some v => simp
  rw [ee] at this
  exact this
theorem drop_at {u : ByteArray} {i : Nat} (h : i < u.size) : u.data.toList.drop i = u[i] :: u.data.toList.drop (i + 1) := by
  have hl : u.data.toList.length = u.size := Array.length_toList
  rw [List.drop_eq_getElem_cons (by omega)]
  simp
  rfl
def dayE (o : Option Nat) : Ending := match o with
  | some d => .returned (.tuple #[.int .i64 (d : Int), .bool true])
  | none => .returned (.tuple #[.int .i64 0, .bool false])
theorem isDig0 {c : UInt8} (h : dgB (c.toNat : Int) = true) : 48 ≤ c.toNat ∧ c.toNat ≤ 57 := by
  unfold dgB at h
  simp at h
  omega
set_option maxHeartbeats 2000000 in
theorem dayOf_any (u : ByteArray) (h1 : 1 ≤ u.size) (hu : u.size ≤ 1048576) (w : World) : Calls Tryd.prog 32 #[.string u] w fun e w' => e = dayE (dayP u) ∧ w' = w := by
  obtain ⟨R, hR⟩ : ∃ R, dayP u = R := ⟨_, rfl⟩
  rw [hR]
  have D0 := drop_at (u := u) (i := 0) (by omega)
  rw [List.drop_zero] at D0
  obtain ⟨c, hc⟩ : ∃ c : Nat, u[0].toNat = c := ⟨_, rfl⟩
  have hh : u.data.toList.head? = some 48 ↔ c = 48 := by
    rw [D0, List.head?_cons]
    constructor
    · intro e
      injection e with e
      rw [← hc, e]
      decide
    · intro e
      congr 1
      apply UInt8.toNat_inj.1
      rw [hc, e]
      decide
  by_cases q : c = 48 ∧ 1 < u.size
  · obtain ⟨rfl, q2⟩ := q
    have eR : R = none := by rw [← hR]; unfold dayP; rw [if_pos ⟨hh.2 rfl, q2⟩]
    subst eR
    have q3 : (1 : Int) < (u.size : Int) := by omega
    show Calls _ _ _ _ fun e w' => e = .returned (.tuple #[.int .i64 0, .bool false]) ∧ w' = w
    clear hR hh D0
    go_enter Tryd.func32, Tryd.ntmps32
    go_wp2
    go_ret2
    exact ⟨rfl, rfl⟩
  · have eR : dayF 0 u.data.toList = R := by
      rw [← hR]; unfold dayP
      rw [if_neg (fun k => q ⟨hh.1 k.1, k.2⟩)]
    have GO := Lib.hid (p := ∀ i d : Nat, dayF d (u.data.toList.drop i) = R → i = u.size → R = some d) (fun i d e k => by
      rw [List.drop_eq_nil_of_le (by have : u.data.toList.length = u.size := Array.length_toList
                                     omega), dayF] at e
      exact e.symm)
    have ST := Lib.hid (p := ∀ (i d : Nat) (hi : i < u.size), dayF d (u.data.toList.drop i) = R → (dgB (u[i].toNat : Int) = false → R = none) ∧ (dgB (u[i].toNat : Int) = true → dayF (min (10 * d + (u[i].toNat - 48)) 4096) (u.data.toList.drop (i + 1)) = R ∧ 48 ≤ u[i].toNat ∧ u[i].toNat ≤ 57)) (fun i d hi e => by
      rw [drop_at hi, dayF] at e
      constructor
      · intro k
        rw [k, if_neg (by simp)] at e
        exact e.symm
      · intro k
        rw [if_pos k] at e
        exact ⟨e, isDig0 k⟩)
    have F0 := Lib.hid eR
    have CQ : ¬ (c : Int) = 48 ∨ (c = 48 ∧ ¬ (1 : Int) < (u.size : Int)) := by omega
    clear hR hh D0 eR q
    rcases CQ with CQ | ⟨rfl, CQ⟩
    · go_enter Tryd.func32, Tryd.ntmps32
      go_wp2
      go_loopw [4, 16] (fun x y wr => ∃ i d : Nat, i ≤ u.size ∧ d ≤ 4096 ∧ x = .int .i64 (d : Int) ∧ y = .int .i64 (i : Int) ∧ RowKit.Hid (dayF d (u.data.toList.drop i) = R) ∧ wr = w) (fun _ y _ => u.size - (intOf y).toNat)
      case atStart => exact ⟨0, 0, by omega, by omega, rfl, rfl, F0.out, rfl⟩
      case round =>
        obtain ⟨i, d, hi, hd, rfl, rfl, hF, rfl⟩ := hrel
        by_cases hl : i < u.size
        · have kc : (i : Int) < (u.size : Int) := by omega
          obtain ⟨s1, s2⟩ := ST.out i d hl hF.out
          obtain ⟨x, hx⟩ : ∃ x : Nat, u[i].toNat = x := ⟨_, rfl⟩
          rw [hx] at s1 s2
          have KD := Lib.hid (fun W => isDigT_any (x : Int) W)
          cases hg : dgB (x : Int) with
          | false =>
            rw [hg] at KD
            have e := Lib.hid (s1 hg)
            clear s1 s2 hg
            go_wp2_with (go_at_call 43; refine (KD.out _).mono ?_; rintro e w' ⟨rfl, rfl⟩)
            go_ret2
            exact ⟨by rw [e.out]; rfl, rfl⟩
          | true =>
            rw [hg] at KD
            obtain ⟨g1, g2, g3⟩ := s2 hg
            have G1 := Lib.hid g1
            have k1 : IntKind.u8.wrap ((x : Int) - 48) = (x : Int) - 48 := by simp [IntKind.wrap, IntKind.bits, IntKind.signed]; omega
            have k2 : IntKind.i64.wrap (10 * (d : Int)) = 10 * (d : Int) := by simp [IntKind.wrap, IntKind.bits, IntKind.signed]; omega
            have k3 : IntKind.i64.wrap (10 * (d : Int) + ((x : Int) - 48)) = 10 * (d : Int) + ((x : Int) - 48) := by simp [IntKind.wrap, IntKind.bits, IntKind.signed]; omega
            have k4 : IntKind.i64.wrap ((x : Int) - 48) = (x : Int) - 48 := by simp [IntKind.wrap, IntKind.bits, IntKind.signed]; omega
            have k5 : IntKind.i64.wrap ((i : Int) + 1) = (i : Int) + 1 := by simp [IntKind.wrap, IntKind.bits, IntKind.signed]; omega
            clear s1 s2 hg g1
            go_wp2_with (go_at_call 43; refine (KD.out _).mono ?_; rintro e w' ⟨rfl, rfl⟩)
            go_roundw
            case rel => exact ⟨i + 1, min (10 * d + (x - 48)) 4096, by omega, by omega, by congr 1; omega, by go_num, G1.out, trivial⟩
            case measure => simp [intOf]; omega
        · obtain rfl : i = u.size := by omega
          have e := Lib.hid (GO.out _ d hF.out rfl)
          go_wp2
          go_ret2
          exact ⟨by rw [e.out]; rfl, rfl⟩
    · go_enter Tryd.func32, Tryd.ntmps32
      go_wp2
      go_loopw [4, 16] (fun x y wr => ∃ i d : Nat, i ≤ u.size ∧ d ≤ 4096 ∧ x = .int .i64 (d : Int) ∧ y = .int .i64 (i : Int) ∧ RowKit.Hid (dayF d (u.data.toList.drop i) = R) ∧ wr = w) (fun _ y _ => u.size - (intOf y).toNat)
      case atStart => exact ⟨0, 0, by omega, by omega, rfl, rfl, F0.out, rfl⟩
      case round =>
        obtain ⟨i, d, hi, hd, rfl, rfl, hF, rfl⟩ := hrel
        by_cases hl : i < u.size
        · have kc : (i : Int) < (u.size : Int) := by omega
          obtain ⟨s1, s2⟩ := ST.out i d hl hF.out
          obtain ⟨x, hx⟩ : ∃ x : Nat, u[i].toNat = x := ⟨_, rfl⟩
          rw [hx] at s1 s2
          have KD := Lib.hid (fun W => isDigT_any (x : Int) W)
          cases hg : dgB (x : Int) with
          | false =>
            rw [hg] at KD
            have e := Lib.hid (s1 hg)
            clear s1 s2 hg
            go_wp2_with (go_at_call 43; refine (KD.out _).mono ?_; rintro e w' ⟨rfl, rfl⟩)
            go_ret2
            exact ⟨by rw [e.out]; rfl, rfl⟩
          | true =>
            rw [hg] at KD
            obtain ⟨g1, g2, g3⟩ := s2 hg
            have G1 := Lib.hid g1
            have k1 : IntKind.u8.wrap ((x : Int) - 48) = (x : Int) - 48 := by simp [IntKind.wrap, IntKind.bits, IntKind.signed]; omega
            have k2 : IntKind.i64.wrap (10 * (d : Int)) = 10 * (d : Int) := by simp [IntKind.wrap, IntKind.bits, IntKind.signed]; omega
            have k3 : IntKind.i64.wrap (10 * (d : Int) + ((x : Int) - 48)) = 10 * (d : Int) + ((x : Int) - 48) := by simp [IntKind.wrap, IntKind.bits, IntKind.signed]; omega
            have k4 : IntKind.i64.wrap ((x : Int) - 48) = (x : Int) - 48 := by simp [IntKind.wrap, IntKind.bits, IntKind.signed]; omega
            have k5 : IntKind.i64.wrap ((i : Int) + 1) = (i : Int) + 1 := by simp [IntKind.wrap, IntKind.bits, IntKind.signed]; omega
            clear s1 s2 hg g1
            go_wp2_with (go_at_call 43; refine (KD.out _).mono ?_; rintro e w' ⟨rfl, rfl⟩)
            go_roundw
            case rel => exact ⟨i + 1, min (10 * d + (x - 48)) 4096, by omega, by omega, by congr 1; omega, by go_num, G1.out, trivial⟩
            case measure => simp [intOf]; omega
        · obtain rfl : i = u.size := by omega
          have e := Lib.hid (GO.out _ d hF.out rfl)
          go_wp2
          go_ret2
          exact ⟨by rw [e.out]; rfl, rfl⟩
end Go.Proofs.YtldplmchgmoopaaDoor

namespace Go.Proofs.YtldplmchgmoopaaDoor
open Go.RowKit Go.Shelf Go.Maps
set_option linter.unusedVariables false
set_option linter.unusedSimpArgs false

theorem TR.kept {w w' : World} {g : Nat} {s : ByteArray} {at_ pl : Nat} {m nm rw : Value} (h : TR w g s at_ pl m nm rw) (hb : w'.heap[g]? = w.heap[g]?) : TR w' g s at_ pl m nm rw := ⟨hb.trans h.hb, h.sz, h.le⟩
theorem TR.below {w w' : World} {g : Nat} {s : ByteArray} {at_ pl : Nat} {m nm rw : Value} (h : TR w g s at_ pl m nm rw) (b : Below w.heap.size w w') : TR w' g s at_ pl m nm rw := h.kept (b.block g h.lt)
theorem TR.grown {w w' : World} {g : Nat} {s : ByteArray} {at_ pl : Nat} {m nm rw : Value} {r : Option Nat} (h : TR w g s at_ pl m nm rw) (b : w.grownBy w' r) (hr : some g ≠ r) : TR w' g s at_ pl m nm rw := h.kept (b.block g h.lt hr)
theorem TR.alloc {w : World} {g : Nat} {s : ByteArray} {at_ pl : Nat} {m nm rw : Value} (h : TR w g s at_ pl m nm rw) (o : Obj) : TR (w.alloc o) g s at_ pl m nm rw := h.kept (Below.heap_alloc _ _ _ h.lt)
theorem TR.setNm {w : World} {g : Nat} {s : ByteArray} {at_ pl : Nat} {m nm rw : Value} (h : TR w g s at_ pl m nm rw) (v : Value) : TR (w.setCell ⟨g, 4, none⟩ v) g s at_ pl m v rw := ⟨Joins.block_setCell h.hb _, h.sz, h.le⟩
theorem TR.setRw {w : World} {g : Nat} {s : ByteArray} {at_ pl : Nat} {m nm rw : Value} (h : TR w g s at_ pl m nm rw) (v : Value) : TR (w.setCell ⟨g, 5, none⟩ v) g s at_ pl m nm v := ⟨Joins.block_setCell h.hb _, h.sz, h.le⟩
theorem Gr.below {g B : Nat} {a b c : World} (h : Below B a b) (k : Gr g b c) (hg : B ≤ g) (hl : g < b.heap.size) : Below B a c := h.grown k (by omega) (fun i e => by injection e with e; omega)
theorem grow_of_below {a b : World} (h : Below a.heap.size a b) : a.grownBy b none := ⟨h.os, h.tape, h.output, h.size, fun k hk _ => h.block k hk⟩
theorem zeroU (w : World) : (zeroValue 73).run Tryd.prog w = .ok (.agg #[]) w := by kernel_rfl
abbrev MapOwn (w : World) (mb n : Nat) (D : DataW Unit) : Prop := w.ownsMap Tryd.prog 9 unitElem mb n D
def lenS (t : Value) : Nat := match t with | .string s => s.size | _ => 0
/-- What lies behind head. -/
structure HD (w0 W : World) (B g mb : Nat) (s : ByteArray) (rw : Value) (x c : Nat) : Prop where
  tr : TR W g s 5 5 (.map (some mb)) (.slice (some ⟨x, 0, none⟩) 1 c) rw
  nm : W.cell? ⟨x, 0, none⟩ = some (.string ⟨#[65]⟩)
  xl : B ≤ x ∧ x < W.heap.size ∧ x ≠ g
  bel : Below B w0 W
end Go.Proofs.YtldplmchgmoopaaDoor

namespace Go.Proofs.YtldplmchgmoopaaDoor
open Go.RowKit Go.Shelf Go.Maps
set_option linter.unusedVariables false
set_option linter.unusedSimpArgs false

/-- The set of the names so far. -/
def SetIs (D : DataW Unit) (ns : List ByteArray) : Prop := (∀ c, Maps.has D (litS c) = hasN ns c) ∧ Maps.size D = ns.length
theorem setIs_nil : SetIs (.map []) [] := ⟨fun _ => rfl, rfl⟩
theorem hasN_snoc (ns : List ByteArray) (u c : ByteArray) : hasN (ns ++ [u]) c = (hasN ns c || decide (u = c)) := by unfold hasN; simp
theorem SetIs.put {D : DataW Unit} {ns : List ByteArray} (h : SetIs D ns) (t : Tidy D) (u : ByteArray) (hu : hasN ns u = false) (d : DataW Unit) : SetIs (D.put (litS u) d) (ns ++ [u]) := by
  refine ⟨fun c => ?_, ?_⟩
  · rw [hasN_snoc]
    by_cases e : c = u
    · subst e
      rw [has_put_same t.isMap (k := litS c) trivial]
      simp
    · rw [has_put_other (litS_ne e), h.1 c, decide_eq_false (fun k => e k.symm)]
      simp
  · rw [size_put t, h.1 u, hu, h.2]
    simp
/-- The reader while it reads names. -/
structure HdS (w0 W : World) (B g mb : Nat) (s : ByteArray) (i p : Nat) (ns : List ByteArray) (nm rw : Value) (D : DataW Unit) : Prop where
  tr : TR W g s i p (.map (some mb)) nm rw
  mo : MapOwn W mb ns.length D
  si : SetIs D ns
  no : W.ownsRow B 9 1 nm ns.length (ns.map Value.string)
  bel : Below B w0 W
theorem HdS.ng {w0 W : World} {B g mb : Nat} {s : ByteArray} {i p : Nat} {ns : List ByteArray} {nm rw : Value} {D : DataW Unit} (h : HdS w0 W B g mb s i p ns nm rw D) : nm.ownBlock ≠ some g := ty_apart h.no h.tr.hb (by decide)
theorem HdS.word {w0 W W' : World} {B g mb : Nat} {s : ByteArray} {i p i' p' : Nat} {ns : List ByteArray} {nm rw : Value} {D : DataW Unit} (h : HdS w0 W B g mb s i p ns nm rw D) (hne : mb ≠ g) (hg : B ≤ g) (t : TR W' g s i' p' (.map (some mb)) nm rw) (k : Gr g W W') : HdS w0 W' B g mb s i' p' ns nm rw D :=
  ⟨t, h.mo.kept k (by simpa using hne), h.si, h.no.kept k (.inr h.ng), Gr.below h.bel k hg h.tr.lt⟩
theorem HdS.below {w0 W W' : World} {B g mb : Nat} {s : ByteArray} {i p : Nat} {ns : List ByteArray} {nm rw : Value} {D : DataW Unit} (h : HdS w0 W B g mb s i p ns nm rw D) (hg : B ≤ g) (b : Below W.heap.size W W') : HdS w0 W' B g mb s i p ns nm rw D :=
  ⟨h.tr.below b, h.mo.kept (grow_of_below b) (by simp), h.si, own_back h.no b, h.bel.trans (b.mono (Nat.le_trans hg (Nat.le_of_lt h.tr.lt)))⟩
theorem below_al (w : World) (o : Obj) : Below w.heap.size w (w.alloc o) := (Below.refl _ w).alloc (Nat.le_refl _) o
theorem isEmpty_no {u : ByteArray} (h : 1 ≤ u.size) : u.toList.isEmpty = false := by
  rw [list_of]
  have hl : u.data.toList.length = u.size := Array.length_toList
  cases q : u.data.toList with
  | nil => rw [q] at hl; simp at hl; omega
  | cons c r => rfl
theorem one_news (W : World) (u : Value) (E : TypeId) : ∀ y, some (⟨W.heap.size, 0, none⟩ : Addr) = some y → ∀ j z, [u][j]? = some z → (W.alloc (.cells #[u] E)).cell? (y.add j) = some z := by
  intro y e j z hj
  injection e with e; subst e
  match j, hj with
  | 0, hj => simp at hj; subst hj; simp [Addr.add]
theorem HdS.push {w0 w3 w4 w5 : World} {B g mb : Nat} {s : ByteArray} {i p c : Nat} {u : ByteArray} {ns : List ByteArray} {nm rw : Value} {a : Option Addr} {D : DataW Unit} {d : DataW Unit} (h : HdS w0 w3 B g mb s i p ns nm rw D) (hne : mb ≠ g) (hg : B ≤ g) (hm : B ≤ mb) (hu : hasN ns u = false)
    (hm4 : MapOwn w4 mb (ns.length + 1) (D.put (litS u) d)) (hg4 : w3.grownBy w4 (some mb)) (o5 : w5.ownsRow B 9 1 (.slice a (ns.length + 1) c) (ns.length + 1) (ns.map Value.string ++ [.string u])) (g5 : (w4.alloc (.cells #[.string u] 9)).grownBy w5 nm.ownBlock) (hmb : nm.ownBlock ≠ some mb) :
    HdS w0 (w5.setCell ⟨g, 4, none⟩ (.slice a (ns.length + 1) c)) B g mb s i p (ns ++ [u]) (.slice a (ns.length + 1) c) rw (D.put (litS u) d) := by
  have t4 : TR w4 g s i p (.map (some mb)) nm rw := h.tr.grown hg4 (by simpa using Ne.symm hne)
  have ng := h.ng
  have t5 : TR w5 g s i p (.map (some mb)) nm rw := (t4.alloc _).grown g5 (Ne.symm ng)
  have m5 : MapOwn w5 mb (ns.length + 1) (D.put (litS u) d) := (hm4.alloc _).kept g5 (Ne.symm hmb)
  have hw : (ns ++ [u]).length = ns.length + 1 := by simp
  have hb4 : B ≤ w4.heap.size := Nat.le_trans hg (Nat.le_of_lt t4.lt)
  have t6 := t5.setNm (.slice a (ns.length + 1) c)
  have ng5 : (Value.slice a (ns.length + 1) c).ownBlock ≠ some g := ty_apart o5 t5.hb (by decide)
  refine ⟨t6, ?_, h.si.put (h.mo.tidy lawS) u hu d, ?_, ?_⟩
  · rw [hw]; exact m5.kept (grT_set _ _ _ _) (by simpa using hne)
  · rw [hw, List.map_append]
    exact o5.kept (grT_set _ _ _ _) (.inr ng5)
  · exact (((h.bel.grown hg4 (Nat.le_trans hg (Nat.le_of_lt h.tr.lt)) (fun k e => by injection e with e; omega)).alloc hb4 _).grown g5 (Nat.le_trans hb4 (by simp)) (fun k e => (h.no.lt k e).1)).setCell (p := ⟨g, 4, none⟩) hg _
theorem map_apart {w : World} {B mb n : Nat} {E : TypeId} {v : Value} {xs : List Value} {m : Nat} {D : DataW Unit} (h : w.ownsRow B E 1 v n xs) (k : MapOwn w mb m D) : v.ownBlock ≠ some mb := by
  obtain ⟨es, ck, hh, _⟩ := k
  rcases h.2 with ⟨rfl, _⟩ | ⟨g, c, cur, rfl, _, hg, _⟩
  · intro e; cases e
  · intro e
    simp [Value.ownBlock] at e
    subst e
    rw [hh] at hg
    cases hg
/-- How far it is to the end, and whether a word stands there. -/
def headM (s : ByteArray) (g : Nat) (t : Value) (w : World) : Nat := 2 * (s.size - posT g w) + (if lenS t = 0 then 0 else 1)
theorem headM_lt {s : ByteArray} {g : Nat} {u v : ByteArray} {W W' : World} (h : 1 ≤ u.size) (hv : v.size = 0 ∨ posT g W < posT g W') (hp : posT g W ≤ posT g W') (hl : posT g W' ≤ s.size) : headM s g (.string v) W' < headM s g (.string u) W := by
  unfold headM
  rw [show lenS (.string v) = v.size from rfl, show lenS (.string u) = u.size from rfl, if_neg (show ¬ u.size = 0 by omega)]
  split <;> omega
set_option maxRecDepth 100000 in
set_option maxHeartbeats 8000000 in
theorem head_any (g mb B : Nat) (s : ByteArray) (i p : Nat) (nm rw : Value) (D : DataW Unit) (w0 w : World) (h : HdS w0 w B g mb s i p [] nm rw D) (hne : mb ≠ g) (hg : B ≤ g) (hm : B ≤ mb) :
    Calls Tryd.prog 16 #[.pointer (some ⟨g, 0, none⟩), .string ⟨#[100, 97, 121]⟩] w fun e w' => e = .returned (.int .i64 (headP s i []).2.2.1) ∧ ∃ nm' D', HdS w0 w' B g mb s (headP s i []).2.1 (headP s i []).1 (headP s i []).2.2.2 nm' rw D' := by
  have sz := h.tr.sz
  have le := h.tr.le
  have KW := Lib.hid (fun i p m nm rw W (t : TR W g s i p m nm rw) => word_all g s i p m nm rw W t)
  have H0 := Lib.hid h
  have zU := Lib.hid zeroU
  obtain ⟨R, hR⟩ : ∃ R, headP s i [] = R := ⟨_, rfl⟩
  rw [hR]
  have HR := Lib.hid hR
  clear h hR
  go_enter Tryd.func16, Tryd.ntmps16
  go_wp2_with (go_at_call 14; refine (KW.out _ _ _ _ _ _ H0.out.tr).mono ?_; rintro e w1 ⟨rfl, h1, h2⟩; have H1 := Lib.hid (H0.out.word hne hg h1 h2); clear h1 h2)
  go_loopw [5] (fun t wr => ∃ i ns nm D, i ≤ s.size ∧ t = .string (wrd s i) ∧ RowKit.Hid (headP s i ns = R) ∧ RowKit.Hid (ns.length ≤ 64) ∧ HdS w0 wr B g mb s (wEn s i) (wPl s i) ns nm rw D) (fun t wr => headM s g t wr)
  case atStart => exact ⟨i, [], nm, D, le, rfl, HR.out, Nat.zero_le _, H1.out⟩
  case round =>
    rename World => wr
    obtain ⟨i, ns, nm, D, hi, rfl, hR, hN, hH⟩ := hrel
    have HH := Lib.hid hH
    have e1 := wPl_ge s i
    have e2 := wEn_ge s i
    have e3 := wEn_le hi
    have n64 := hN.out
    by_cases h0 : wEn s i = wPl s i
    · have R0 := Lib.hid (hR.out.symm.trans (headP_0 h0))
      have eW : wrd s i = ⟨#[]⟩ := wrd_none h0
      rw [eW]
      clear hH hR eW
      go_wp2
      go_ret
      rw [R0.out]
      exact ⟨rfl, nm, D, HH.out⟩
    · have us : 1 ≤ (wrd s i).size := by rw [wrd_size hi]; omega
      have ul : (wrd s i).size ≤ 1048576 := by rw [wrd_size hi]; omega
      have iE := isEmpty_no us
      have MS := Lib.hid (p := ∀ W t, posT g W = wEn s (wEn s i) → t = .string (wrd s (wEn s i)) → headM s g t W < headM s g (.string (wrd s i)) wr) (fun W t h1 h2 => by
        subst h2
        have f1 := wEn_le e3
        have f2 := wPl_ge s (wEn s i)
        have f3 := wEn_ge s (wEn s i)
        have f4 := wrd_size e3
        have f5 := hH.tr.pos
        exact headM_lt us (by omega) (by omega) (by omega))
      have R6 := Lib.hid (p := ns.length = 64 → R = (wPl s i, wEn s i, 6, ns)) (fun k => hR.out.symm.trans (headP_6 h0 k))
      have R52 := Lib.hid (p := ¬ ns.length = 64 → (hasN ns (wrd s i) = true ∨ nameB (wrd s i) = false) → R = (wPl s i, wEn s i, 52, ns)) (fun k1 k2 => hR.out.symm.trans (headP_52 h0 k1 k2))
      have RGO := Lib.hid (p := ¬ ns.length = 64 → hasN ns (wrd s i) = false → nameB (wrd s i) = true → headP s (wEn s i) (ns ++ [wrd s i]) = R) (fun k1 k2 k3 => by rw [← hR.out, headP_go hi h0 k1 (by rw [k2, k3]; simp)])
      have WD := Lib.hid (p := wrd s (wEn s i) = wrd s (wEn s i)) rfl
      generalize hu : wrd s i = u at *
      have KC := Lib.hid (fun W => isCapName_any u W (by omega))
      have KL := Lib.hid (fun W => cloneT_any u (by omega) W)
      have kS : keyOf Tryd.prog 9 (.string u) = some (litS u) := keyS (by omega)
      have hsz := hH.si.2
      have hh := hH.si.1 u
      obtain ⟨h1, h2, h3, h4, h5, h6⟩ := hH.tr.c
      have M1 := Lib.hid hH.mo
      have NB := Lib.hid (map_apart hH.no hH.mo)
      obtain ⟨an, cn, rfl⟩ := rowL_form hH.no
      clear hH hR hN
      by_cases h64 : ns.length = 64
      · have R0 := Lib.hid (R6.out h64)
        have hz : (Maps.size D : Int) = 64 := by omega
        go_wp2_with (at_len; refine wpList_len_own _ rfl _ 53 rfl 9 73 Tryd.underlying53 _ mb _ _ rfl M1.out ?_)
        go_ret
        rw [R0.out]
        exact ⟨rfl, _, D, HH.out⟩
      · have hz : ¬ (Maps.size D : Int) = 64 := by omega
        have hz2 : (Maps.size D == 64) = false := by rw [beq_eq_false_iff_ne]; omega
        cases hq : hasN ns u with
        | true =>
          have R0 := Lib.hid (R52.out h64 (.inl hq))
          rw [hq] at hh
          go_wp2_with (first
            | (at_len; refine wpList_len_own _ rfl _ 53 rfl 9 73 Tryd.underlying53 _ mb _ _ rfl M1.out ?_)
            | (at_lookup; refine wpList_lookup_own_unit _ rfl _ _ 53 rfl 9 73 lawS Tryd.underlying53 (zU.out _) mb _ _ rfl M1.out _ _ rfl kS ?_))
          go_ret
          rw [R0.out]
          exact ⟨rfl, _, D, HH.out.below hg (below_al _ _)⟩
        | false =>
          rw [hq] at hh
          cases hc : nameB u with
          | false =>
            have R0 := Lib.hid (R52.out h64 (.inr hc))
            rw [hc] at KC
            go_wp2_with (first
              | (at_len; refine wpList_len_own _ rfl _ 53 rfl 9 73 Tryd.underlying53 _ mb _ _ rfl M1.out ?_)
              | (at_lookup; refine wpList_lookup_own_unit _ rfl _ _ 53 rfl 9 73 lawS Tryd.underlying53 (zU.out _) mb _ _ rfl M1.out _ _ rfl kS ?_)
              | (go_at_call 30; refine (KC.out _).mono ?_; rintro e w' ⟨rfl, rfl⟩))
            go_ret
            rw [R0.out]
            exact ⟨rfl, _, D, HH.out.below hg (below_al _ _)⟩
          | true =>
            have R0 := Lib.hid (RGO.out h64 hq hc)
            have HQ := Lib.hid hq
            rw [hc] at KC
            clear R6 R52 RGO hc hq
            go_wp2_with (first
              | (at_len; refine wpList_len_own _ rfl _ 53 rfl 9 73 Tryd.underlying53 _ mb _ _ rfl M1.out ?_)
              | (at_lookup; refine wpList_lookup_own_unit _ rfl _ _ 53 rfl 9 73 lawS Tryd.underlying53 (zU.out _) mb _ _ rfl M1.out _ _ rfl kS ?_)
              | (go_at_call 30; refine (KC.out _).mono ?_; rintro e w' ⟨rfl, rfl⟩)
              | (go_at_call 31; refine (KL.out _).mono ?_; rintro e w3 ⟨rfl, hb3⟩; have H3 := Lib.hid ((HH.out.below hg (below_al _ _)).below hg hb3); obtain ⟨d0, d1, d2, d3, d4, d5⟩ := H3.out.tr.c; clear hb3)
              | (at_mapUpdate; refine wpList_mapUpdate_own _ rfl _ _ _ 53 rfl 9 73 lawS Tryd.underlying53 _ mb _ _ rfl H3.out.mo (by unfold maxLen; omega) _ _ _ rfl rfl kS _ [] unitElem_mk ?_; intro w4 hm4 hg4; have M4 := Lib.hid hm4; have G4 := Lib.hid hg4; have N4 := Lib.hid (H3.out.no.kept hg4 (.inr NB.out)); have T4 := Lib.hid (H3.out.tr.grown hg4 (by simpa using Ne.symm hne)); obtain ⟨f0, f1, f2, f3, f4, f5⟩ := T4.out.c; have B4 := Lib.hid (p := B ≤ (w4.alloc (.cells #[.string u] 9)).heap.size) (Nat.le_trans hg (Nat.le_of_lt (T4.out.alloc _).lt)); clear hm4 hg4)
              | (at_builtin; refine wp_appG Tryd.underlying27 infoS rfl (by decide) _ B B4.out (some ⟨w4.heap.size, 0, none⟩) 1 1 [.string u] rfl (one_news w4 _ _) (fun e => by cases e) (strs_one [u]) rfl _ _ rfl _ ns.length (ns.map Value.string) rfl (N4.out.alloc _) rfl (by unfold maxLen; omega) (by omega) ?_; intro v5 w5 h1 h2; obtain ⟨a5, c5, rfl⟩ := rowL_form h1; have O5 := Lib.hid h1; have G5 := Lib.hid h2; have T5 := Lib.hid ((T4.out.alloc _).grown h2 (Ne.symm H3.out.ng)); have z4 := T5.out.f 4; have q4 := T5.out.c.2.2.2.2.1; have H5 := Lib.hid (H3.out.push hne hg hm HQ.out M4.out G4.out h1 h2 NB.out); clear h1 h2)
              | (go_at_call 14; refine (KW.out _ _ _ _ _ _ H5.out.tr).mono ?_; rintro e w6 ⟨rfl, t6, g6⟩; have H6 := Lib.hid (H5.out.word hne hg t6 g6); clear t6 g6))
            go_roundw
            case rel => exact ⟨wEn s i, ns ++ [u], _, _, e3, rfl, R0.out, by show (ns ++ [u]).length ≤ 64; simp; omega, H6.out⟩
            case measure => exact MS.out _ _ H6.out.tr.pos rfl
end Go.Proofs.YtldplmchgmoopaaDoor

namespace Go.Proofs.YtldplmchgmoopaaDoor
open Go.RowKit
set_option linter.unusedVariables false
set_option linter.unusedSimpArgs false

theorem dayF_top : ∀ (l : List UInt8) (d e : Nat), d ≤ 4096 → dayF d l = some e → e ≤ 4096
  | [], d, e, h, q => by rw [dayF] at q; injection q with q; omega
  | c :: l, d, e, h, q => by
    rw [dayF] at q
    split at q
    · exact dayF_top l _ e (by omega) q
    · cases q
theorem dayZ_in (u : ByteArray) : -1 ≤ dayZ u ∧ dayZ u ≤ 4096 := by
  cases h : dayP u with
  | none => rw [dayZ_none h]; omega
  | some d =>
    rw [dayZ_some h]
    unfold dayP at h
    split at h
    · cases h
    · have := dayF_top _ 0 d (by omega) h
      omega
set_option maxHeartbeats 2000000 in
theorem rDay_any (u : ByteArray) (hu : u.size ≤ 1048576) (w : World) : Calls Tryd.prog 12 #[.string u] w fun e w' => e = .returned (.int .i64 (dayZ u)) ∧ w' = w := by
  obtain ⟨Z, hZ⟩ : ∃ Z, dayZ u = Z := ⟨_, rfl⟩
  rw [hZ]
  have HD := Lib.hid (p := ∀ h : 0 < u.size, (u.data.toList.head? = some 48 ↔ (u[0].toNat : Int) = 48)) (fun h => by
    rw [show u.data.toList = u.data.toList.drop 0 from rfl, drop_at h, List.head?_cons]
    constructor
    · intro e
      injection e with e
      rw [e]
      decide
    · intro e
      congr 1
      apply UInt8.toNat_inj.1
      have : u[0].toNat = 48 := by omega
      rw [this]
      decide)
  have ST := Lib.hid (p := ∀ (i d : Nat) (hi : i < u.size), dayF d (u.data.toList.drop i) = dayP u → (dgB (u[i].toNat : Int) = false → Z = -1) ∧ (dgB (u[i].toNat : Int) = true → dayF (min (10 * d + (u[i].toNat - 48)) 4096) (u.data.toList.drop (i + 1)) = dayP u)) (fun i d hi e => by
    rw [drop_at hi, dayF] at e
    constructor
    · intro k
      rw [k, if_neg (by simp)] at e
      rw [← hZ]
      exact dayZ_none e.symm
    · intro k
      rw [if_pos k] at e
      exact e)
  have GO := Lib.hid (p := ∀ i d : Nat, dayF d (u.data.toList.drop i) = dayP u → i = u.size → Z = (d : Int)) (fun i d e k => by
    rw [List.drop_eq_nil_of_le (by have : u.data.toList.length = u.size := Array.length_toList
                                   omega), dayF] at e
    rw [← hZ]
    exact dayZ_some e.symm)
  have OD := Lib.hid (p := u.data.toList.head? = some 48 ∧ 1 < u.size → Z = -1) (fun k => by
    rw [← hZ]
    exact dayZ_none (by unfold dayP; rw [if_pos k]))
  have F0 := Lib.hid (p := ¬ (u.data.toList.head? = some 48 ∧ 1 < u.size) → dayF 0 (u.data.toList.drop 0) = dayP u) (fun k => by unfold dayP; rw [if_neg k]; rfl)
  have UB := Lib.hid (p := ∀ i (h : i < u.size), u[i].toNat < 256) (fun i h => u[i].toNat_lt)
  clear hZ
  go_enter Tryd.func12, Tryd.ntmps12
  go_wp2
  go_loopw [3, 4] (fun x y wr => ∃ d i : Nat, i ≤ u.size ∧ d ≤ 4096 ∧ x = .int .i64 (d : Int) ∧ y = .int .i64 (i : Int) ∧ RowKit.Hid ((¬ (u.data.toList.head? = some 48 ∧ 1 < u.size) → dayF d (u.data.toList.drop i) = dayP u) ∧ (u.data.toList.head? = some 48 ∧ 1 < u.size → i ≤ 1)) ∧ wr = w) (fun _ y _ => u.size - (intOf y).toNat)
  case atStart => exact ⟨0, 0, by omega, by omega, rfl, rfl, ⟨F0.out, fun _ => by omega⟩, rfl⟩
  case round =>
    obtain ⟨d, i, hi, hd, rfl, rfl, hF, rfl⟩ := hrel
    by_cases hl : i < u.size
    · have kc : (i : Int) < (u.size : Int) := by omega
      have h0 : 0 < u.size := by omega
      have hx2 := UB.out i hl
      obtain ⟨x, hx⟩ : ∃ x : Nat, u[i].toNat = x := ⟨_, rfl⟩
      obtain ⟨y, hy⟩ : ∃ y : Nat, u[0].toNat = y := ⟨_, rfl⟩
      have H0 := HD.out h0
      have S := ST.out i d hl
      rw [hx] at S hx2
      rw [hy] at H0
      have k5 : IntKind.i64.wrap ((i : Int) + 1) = (i : Int) + 1 := by simp [IntKind.wrap, IntKind.bits, IntKind.signed]; omega
      have BAD := Lib.hid (p := dgB (x : Int) = false → Z = -1) (fun q => by
        by_cases z : u.data.toList.head? = some 48 ∧ 1 < u.size
        · exact OD.out z
        · exact (S (hF.out.1 z)).1 q)
      by_cases h1 : (x : Int) < 48
      · have e := Lib.hid (BAD.out (by unfold dgB; simp; omega))
        clear S BAD H0
        go_wp2
        go_ret
        exact ⟨by rw [e.out]; rfl, rfl⟩
      · by_cases h2 : (57 : Int) < (x : Int)
        · have e := Lib.hid (BAD.out (by unfold dgB; simp; omega))
          clear S BAD H0
          go_wp2
          go_ret
          exact ⟨by rw [e.out]; rfl, rfl⟩
        · have hg : dgB (x : Int) = true := by unfold dgB; simp; omega
          have k1 : IntKind.u8.wrap ((x : Int) - 48) = (x : Int) - 48 := by simp [IntKind.wrap, IntKind.bits, IntKind.signed]; omega
          have k2 : IntKind.i64.wrap (10 * (d : Int)) = 10 * (d : Int) := by simp [IntKind.wrap, IntKind.bits, IntKind.signed]; omega
          have k3 : IntKind.i64.wrap (10 * (d : Int) + ((x : Int) - 48)) = 10 * (d : Int) + ((x : Int) - 48) := by simp [IntKind.wrap, IntKind.bits, IntKind.signed]; omega
          have k4 : IntKind.i64.wrap ((x : Int) - 48) = (x : Int) - 48 := by simp [IntKind.wrap, IntKind.bits, IntKind.signed]; omega
          have NX := Lib.hid (p := ¬ (0 < i ∧ (y : Int) = 48) → (¬ (u.data.toList.head? = some 48 ∧ 1 < u.size) → dayF (min (10 * d + (x - 48)) 4096) (u.data.toList.drop (i + 1)) = dayP u) ∧ (u.data.toList.head? = some 48 ∧ 1 < u.size → i + 1 ≤ 1)) (fun q => ⟨fun z => (S (hF.out.1 z)).2 hg, fun z => by
            by_cases z0 : 0 < i
            · exact absurd ⟨z0, H0.1 z.1⟩ q
            · omega⟩)
          have E0 := Lib.hid (p := 0 < i → (y : Int) = 48 → Z = -1) (fun a b => OD.out ⟨H0.2 b, by omega⟩)
          clear S BAD H0 hg
          by_cases h3 : (0 : Int) < (i : Int)
          · by_cases h4 : (y : Int) = 48
            · have e := Lib.hid (E0.out (by omega) h4)
              clear NX E0
              go_wp2
              go_ret
              exact ⟨by rw [e.out]; rfl, rfl⟩
            · have N2 := Lib.hid (NX.out (fun q => h4 q.2))
              clear NX E0
              by_cases h5 : (4096 : Int) < 10 * (d : Int) + ((x : Int) - 48)
              · go_wp2
                go_roundw
                case rel => exact ⟨min (10 * d + (x - 48)) 4096, i + 1, by omega, by omega, by congr 1; omega, by go_num, N2.out, trivial⟩
                case measure => simp [intOf]; omega
              · go_wp2
                go_roundw
                case rel => exact ⟨min (10 * d + (x - 48)) 4096, i + 1, by omega, by omega, by congr 1; omega, by go_num, N2.out, trivial⟩
                case measure => simp [intOf]; omega
          · have N2 := Lib.hid (NX.out (fun q => h3 (by omega)))
            clear NX E0
            by_cases h5 : (4096 : Int) < 10 * (d : Int) + ((x : Int) - 48)
            · go_wp2
              go_roundw
              case rel => exact ⟨min (10 * d + (x - 48)) 4096, i + 1, by omega, by omega, by congr 1; omega, by go_num, N2.out, trivial⟩
              case measure => simp [intOf]; omega
            · go_wp2
              go_roundw
              case rel => exact ⟨min (10 * d + (x - 48)) 4096, i + 1, by omega, by omega, by congr 1; omega, by go_num, N2.out, trivial⟩
              case measure => simp [intOf]; omega
    · obtain rfl : i = u.size := by omega
      have kc : ¬ (u.size : Int) < (u.size : Int) := by omega
      have e := Lib.hid (p := Z = (d : Int)) (by
        by_cases z : u.data.toList.head? = some 48 ∧ 1 < u.size
        · have := hF.out.2 z; omega
        · exact GO.out _ d (hF.out.1 z) rfl)
      go_wp2
      go_ret
      exact ⟨by rw [e.out]; rfl, rfl⟩
end Go.Proofs.YtldplmchgmoopaaDoor
