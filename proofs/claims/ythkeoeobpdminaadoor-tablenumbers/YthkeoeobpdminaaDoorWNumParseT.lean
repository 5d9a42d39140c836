/-
  WALKS: num.withoutStop, strconv.Atoi as it is called, num.Parse.
-/
import Derived.Test.YthkeoeobpdminaaDoorPlainBack
import Derived.Test.YthkeoeobpdminaaDoorShelf2
import Derived.Lib.AtoiErrMem
import Derived.Lib.Hide
namespace Go.Proofs.YthkeoeobpdminaaDoor
open Go.RowKit
set_option linter.unusedVariables false
set_option linter.unusedSimpArgs false

set_option maxHeartbeats 1000000 in
set_option maxRecDepth 100000 in
theorem withoutStop_any (l : List UInt8) (p : Nat) (hp : p ≤ 18) (hl : l.length ≤ 21) (w : World) :
    Calls Tryd.prog 40 #[.string ⟨l.toArray⟩, .int .i64 p] w fun e w' => e = .returned (.string ⟨(wst p l).toArray⟩) ∧ Below w.heap.size w w' := by
  have sz : (⟨l.toArray⟩ : ByteArray).size = l.length := by simp [ByteArray.size]
  by_cases h0 : p = 0
  · subst h0
    rw [show wst 0 l = l by unfold wst; rw [if_pos (.inl rfl)]]
    go_enter Tryd.func40, Tryd.ntmps40
    go_wp2
    go_ret
    exact ⟨rfl, Below.refl _ _⟩
  · have h0' : ¬ (p : Int) = 0 := by omega
    by_cases h1 : l.length < p + 1
    · rw [show wst p l = l by unfold wst; rw [if_pos (.inr h1)]]
      have h2 : (l.length : Int) - p - 1 < 0 := by omega
      go_enter Tryd.func40, Tryd.ntmps40
      go_wp2
      go_ret
      exact ⟨rfl, Below.refl _ _⟩
    · rw [show wst p l = l.take (l.length - p - 1) ++ l.drop (l.length - p) by unfold wst; rw [if_neg (by omega)]]
      have h2 : ¬ (l.length : Int) - p - 1 < 0 := by omega
      have s1 := cutH l ((l.length : Int) - p - 1) (by omega) (by omega)
      have s2 := cutL l ((l.length : Int) - p) (by omega) (by omega)
      rw [show ((l.length : Int) - p - 1).toNat = l.length - p - 1 by omega] at s1
      rw [show ((l.length : Int) - p).toNat = l.length - p by omega] at s2
      have n1 : (l.take (l.length - p - 1)).length ≤ 40 := by simp; omega
      have n2 : (l.drop (l.length - p)).length ≤ 40 := by simp; omega
      generalize l.take (l.length - p - 1) = l1 at *
      generalize l.drop (l.length - p) = l2 at *
      have r1 := catS l1 l2 (by omega)
      generalize l1 ++ l2 = l3 at *
      have hw : IntKind.i64.wrap ((l.length : Int) - p - 1 + 1) = (l.length : Int) - p - 1 + 1 := by simp [IntKind.wrap, IntKind.bits, IntKind.signed]; omega
      have hw2 : IntKind.i64.wrap ((l.length : Int) - p) = (l.length : Int) - p := by simp [IntKind.wrap, IntKind.bits, IntKind.signed]; omega
      go_enter Tryd.func40, Tryd.ntmps40
      go_wp2
      go_region_held3 (fun _ => True) (exact trivial) (fail)
      all_goals
        go_wp2
        go_ret
        exact ⟨rfl, (Below.refl _ _).drew⟩

/-- The two error values stand. -/
def Ev (w : World) : Prop := (∃ t q, w.var? Tryd.prog "strconv.ErrSyntax" = some #[.iface t q]) ∧ ∃ t q, w.var? Tryd.prog "strconv.ErrRange" = some #[.iface t q]
theorem var_below {w w' : World} {name : String} {g : Nat} {cs : Array Value} (hg : Tryd.prog.globalNamed name = some g) (h : w.var? Tryd.prog name = some cs) (hb : Below w.heap.size w w') : w'.var? Tryd.prog name = some cs := by
  unfold World.var? at h ⊢
  rw [hg] at h ⊢
  simp only [Option.bind_some] at h ⊢
  have hlt : g < w.heap.size := by
    rcases Nat.lt_or_ge g w.heap.size with h' | h'
    · exact h'
    · rw [Array.getElem?_eq_none h'] at h; cases h
  rw [hb.block _ hlt]
  exact h
theorem ev_below {w w' : World} (h : Ev w) (hb : Below w.heap.size w w') : Ev w' := by
  obtain ⟨⟨t, q, h1⟩, t', q', h2⟩ := h
  exact ⟨⟨t, q, var_below (g := 1) (by kernel_rfl) h1 hb⟩, t', q', var_below (g := 2) (by kernel_rfl) h2 hb⟩
theorem pows_below {w w' : World} (h : Pows w) (hb : Below w.heap.size w w') : Pows w' := by
  unfold Pows Lib.TabIs at h ⊢
  exact var_below (g := 3) (by kernel_rfl) h hb

theorem atoi_ok (l : List UInt8) (hl : l.length ≤ 21) (v : Int) (h : Lib.atoiAll l = .ok v) (w : World) :
    Calls Tryd.prog 39 #[.string ⟨l.toArray⟩] w fun e w' => e = .returned (.tuple #[.int .i64 v, .nilIface]) ∧ Below w.heap.size w w' := by
  refine (Tryd.strconv_Atoi_ok ⟨l.toArray⟩ (by simp [ByteArray.size]; omega) v (by simpa using h) w).mono ?_
  rintro e w' ⟨rfl, hw⟩
  refine ⟨rfl, ?_⟩
  rcases hw with rfl | ⟨t, rfl⟩
  · exact Below.refl _ _
  · exact Lib.bytesWorld_below _ _ _
theorem atoi_bad (l : List UInt8) (hl : l.length ≤ 21) (h : ∀ v, Lib.atoiAll l ≠ .ok v) (w : World) (hE : Ev w) :
    Calls Tryd.prog 39 #[.string ⟨l.toArray⟩] w fun e w' => ∃ x t q, e = .returned (.tuple #[.int .i64 x, .iface t q]) ∧ Below w.heap.size w w' := by
  obtain ⟨⟨t, q, h1⟩, t', q', h2⟩ := hE
  cases hA : Lib.atoiAll l
  · rename_i v; exact absurd hA (h v)
  · refine (Any.strconv_Atoi_syntax_var Tryd.laysC172 ⟨l.toArray⟩ (by simp [ByteArray.size]; omega) (by simpa using hA) t q w h1).mono ?_
    rintro e w' ⟨N, rfl, _, _, hb⟩
    exact ⟨_, _, _, rfl, hb⟩
  · refine (Tryd.strconv_Atoi_range_var ⟨l.toArray⟩ (by simp [ByteArray.size]; omega) (by simpa using hA) t' q' w h2).mono ?_
    rintro e w' ⟨N, rfl, _, _, hb⟩
    exact ⟨_, _, _, rfl, hb⟩

theorem atoi_inR {l : List UInt8} {v : Int} (h : Lib.atoiAll l = .ok v) : inR v := by
  unfold inR
  cases l with
  | nil => simp [Lib.atoiAll] at h
  | cons c r =>
    simp only [Lib.atoiAll] at h
    split at h
    · cases h
    · cases h
    · split at h
      · cases h
      · split at h
        · cases h
        · injection h with h
          split at h <;> omega

/-- What Parse answers. -/
def prsV (p : Nat) (l : List UInt8) : Int := (prs p l).getD 0
def prsE (p : Nat) (l : List UInt8) : Int := match prs p l with | some _ => 0 | none => 11

theorem dec_dtx (v : Int) (hv : inR v) (p : Nat) (hp : p ≤ 18) (w : World) (ht : Pows w) :
    Calls Tryd.prog 34 #[.int .i64 v, .int .i64 p] w fun e w' => e = .returned (.string ⟨(dtx v p).toArray⟩) ∧ Below w.heap.size w w' :=
  decimal_any v hv (absI v).toNat (by have := absI_nonneg v; omega) p hp w ht

set_option maxHeartbeats 1000000 in
theorem parse_in (l : List UInt8) (p : Nat) (hp : p ≤ 18) (hl : l.length ≤ 21) (w : World) (ht : Pows w) (hE : Ev w) :
    Calls Tryd.prog 18 #[.string ⟨l.toArray⟩, .int .i64 p] w fun e w' => e = .returned (.tuple #[.int .i64 (prsV p l), .int .i64 (prsE p l)]) ∧ Below w.heap.size w w' := by
  have sz : ((⟨l.toArray⟩ : ByteArray).size : Int) ≤ 21 := by simp [ByteArray.size]; omega
  have F := veil (fit_any (p : Int))
  rw [decide_eq_true (show (0 : Int) ≤ p ∧ (p : Int) ≤ 18 by omega)] at F
  have WS := veil (fun w => withoutStop_any l p hp hl w)
  have wl := wst_len p l
  by_cases hok : ∃ v, Lib.atoiAll (wst p l) = .ok v
  · obtain ⟨v, hv⟩ := hok
    have AT := veil (fun w => atoi_ok (wst p l) (by omega) v hv w)
    have DT := veil (fun w ht => dec_dtx v (atoi_inR hv) p hp w ht)
    by_cases hd : dtx v p = l
    · have e1 : prsV p l = v := by unfold prsV prs; rw [hv]; simp [hd]
      have e2 : prsE p l = 0 := by unfold prsE prs; rw [hv]; simp [hd]
      rw [e1, e2]; clear e1 e2
      rw [hd] at DT
      generalize wst p l = l1 at *
      generalize (⟨l.toArray⟩ : ByteArray) = S at *
      clear hd hv wl
      go_enter Tryd.func18, Tryd.ntmps18
      go_wp2_with (first
        | (go_at_call 33; refine (unveil F _).mono ?_; rintro e w' ⟨rfl, rfl⟩)
        | (go_at_call 40; refine (unveil WS _).mono ?_; rintro e w1 ⟨rfl, b1⟩)
        | (go_at_call 39; refine (unveil AT _).mono ?_; rintro e w2 ⟨rfl, h2⟩; have b2 := b1.trans (h2.mono b1.size))
        | (go_at_call 34; refine (unveil DT _ (pows_below ht b2)).mono ?_; rintro e w3 ⟨rfl, h3⟩; have b3 := b2.trans (h3.mono b2.size)))
      go_ret2
      exact ⟨rfl, b3⟩
    · have e1 : prsV p l = 0 := by unfold prsV prs; rw [hv]; simp [hd]
      have e2 : prsE p l = 11 := by unfold prsE prs; rw [hv]; simp [hd]
      rw [e1, e2]; clear e1 e2
      have ne : ((⟨(dtx v p).toArray⟩ : ByteArray).toList == (⟨l.toArray⟩ : ByteArray).toList) = false := by
        rw [ByteArray.toList_mk, ByteArray.toList_mk]; simpa using hd
      generalize wst p l = l1 at *
      generalize (⟨l.toArray⟩ : ByteArray) = S at *
      generalize (⟨(dtx v p).toArray⟩ : ByteArray) = T at *
      clear hd hv wl
      go_enter Tryd.func18, Tryd.ntmps18
      go_wp2_with (first
        | (go_at_call 33; refine (unveil F _).mono ?_; rintro e w' ⟨rfl, rfl⟩)
        | (go_at_call 40; refine (unveil WS _).mono ?_; rintro e w1 ⟨rfl, b1⟩)
        | (go_at_call 39; refine (unveil AT _).mono ?_; rintro e w2 ⟨rfl, h2⟩; have b2 := b1.trans (h2.mono b1.size))
        | (go_at_call 34; refine (unveil DT _ (pows_below ht b2)).mono ?_; rintro e w3 ⟨rfl, h3⟩; have b3 := b2.trans (h3.mono b2.size)))
      go_ret2
      exact ⟨rfl, b3⟩
  · have hb : ∀ v, Lib.atoiAll (wst p l) ≠ .ok v := fun v e => hok ⟨v, e⟩
    have AT := veil (fun w hE => atoi_bad (wst p l) (by omega) hb w hE)
    have e0 : prs p l = none := by
      unfold prs; split
      · rename_i v hv; exact absurd hv (hb v)
      · rfl
    have e1 : prsV p l = 0 := by unfold prsV; rw [e0]; rfl
    have e2 : prsE p l = 11 := by unfold prsE; rw [e0]
    rw [e1, e2]; clear e1 e2 e0 hb hok
    generalize wst p l = l1 at *
    generalize (⟨l.toArray⟩ : ByteArray) = S at *
    clear wl
    go_enter Tryd.func18, Tryd.ntmps18
    go_wp2_with (first
      | (go_at_call 33; refine (unveil F _).mono ?_; rintro e w' ⟨rfl, rfl⟩)
      | (go_at_call 40; refine (unveil WS _).mono ?_; rintro e w1 ⟨rfl, b1⟩)
      | (go_at_call 39; refine (unveil AT _ (ev_below hE b1)).mono ?_; rintro e w2 ⟨x, t, q, rfl, h2⟩; have b2 := b1.trans (h2.mono b1.size)))
    go_ret2
    exact ⟨rfl, b2⟩

theorem parse_long (s : ByteArray) (p : Nat) (hp : p ≤ 18) (hl : ¬ s.size ≤ 21) (hm : s.size ≤ 9223372036854775807) (w : World) :
    Calls Tryd.prog 18 #[.string s, .int .i64 p] w fun e w' => e = .returned (.tuple #[.int .i64 0, .int .i64 11]) ∧ w' = w := by
  have F := veil (fit_any (p : Int))
  rw [decide_eq_true (show (0 : Int) ≤ p ∧ (p : Int) ≤ 18 by omega)] at F
  have sz : (21 : Int) < s.size := by omega
  go_enter Tryd.func18, Tryd.ntmps18
  go_wp2_with (go_at_call 33; refine (unveil F _).mono ?_; rintro e w' ⟨rfl, rfl⟩)
  go_ret2
  exact ⟨rfl, rfl⟩
theorem parse_places (s : ByteArray) (p : Int) (hp : ¬ (0 ≤ p ∧ p ≤ 18)) (w : World) :
    Calls Tryd.prog 18 #[.string s, .int .i64 p] w fun e w' => e = .returned (.tuple #[.int .i64 0, .int .i64 1]) ∧ w' = w := by
  have F := veil (fit_any p)
  rw [decide_eq_false hp] at F
  clear hp
  go_enter Tryd.func18, Tryd.ntmps18
  go_wp2_with (go_at_call 33; refine (unveil F _).mono ?_; rintro e w' ⟨rfl, rfl⟩)
  go_ret2
  exact ⟨rfl, rfl⟩
end Go.Proofs.YthkeoeobpdminaaDoor
