import Derived.Test.YthhacbelbkkcmaaXAA
import Derived.Test.YthhacbelbkkcmaaXAD
import Derived.Test.YthhacbelbkkcmaaXAE
import Derived.Test.YthhacbelbkkcmaaXAF
namespace Go.Proofs.Ythhacbelbkkcmaa
open Go.RowKit
set_option linter.unusedVariables false
set_option linter.unusedSimpArgs false

def keep (day : Int) (fs : List Fl) : List Fl := fs.filter (fun f => decide (f.d ≤ day))
theorem keep_yes {day : Int} {fs : List Fl} {k : Nat} {f : Fl} (hk : k < fs.length) (hf : fs.getD k default = f) (h : f.d ≤ day) : keep day (fs.take (k + 1)) = keep day (fs.take k) ++ [f] := by
  have e : fs[k]? = some f := by rw [List.getElem?_eq_getElem hk, ← hf]; simp [List.getD, hk]
  unfold keep
  rw [List.take_add_one, e]
  simp [h]
theorem keep_no {day : Int} {fs : List Fl} {k : Nat} {f : Fl} (hk : k < fs.length) (hf : fs.getD k default = f) (h : ¬ f.d ≤ day) : keep day (fs.take (k + 1)) = keep day (fs.take k) := by
  have e : fs[k]? = some f := by rw [List.getElem?_eq_getElem hk, ← hf]; simp [List.getD, hk]
  unfold keep
  rw [List.take_add_one, e]
  simp [h]
theorem keep_len (day : Int) (fs : List Fl) : (keep day fs).length ≤ fs.length := List.length_filter_le _ _

set_option maxHeartbeats 2000000 in
theorem until_any (a : Option Addr) (n cap : Nat) (fs : List Fl) (day : Int) (w : World) (h : FL w a n fs) :
    Calls Try.prog 19 #[.slice a n cap, .int .i64 day] w fun e w' => ∃ v, e = .returned v ∧ Below w.heap.size w w' ∧ w'.ownsRow w.heap.size 40 3 v (keep day fs).length (fcs (keep day fs)) := by
  obtain ⟨h1, h2, h3⟩ := h
  rcases h3 with h3 | ⟨b, o, rfl, hb, hc⟩
  · subst h3
    have hz : fs = [] := List.length_eq_zero_iff.1 h1
    subst hz
    go_enter Try.func19, Try.ntmps19
    go_wp2
    go_loopw [5, 10] (fun v t wr => v = .slice none 0 0 ∧ t = .int .i64 0 ∧ wr = w) (fun _ t _ => 0)
    case atStart => exact ⟨rfl, rfl, rfl⟩
    case round =>
      obtain ⟨rfl, rfl, rfl⟩ := hrel
      go_wp2
      go_ret
      exact ⟨_, rfl, Below.refl _ _, rfl, .inl ⟨rfl, rfl⟩⟩
  · have HC := Lib.hid hc
    clear hc
    go_enter Try.func19, Try.ntmps19
    go_wp2
    go_loopw [5, 10] (fun v t wr => ∃ k : Nat, k ≤ n ∧ t = .int .i64 k ∧ Below w.heap.size w wr ∧ wr.ownsRow w.heap.size 40 3 v (keep day (fs.take k)).length (fcs (keep day (fs.take k)))) (fun _ t _ => n - (intOf t).toNat)
    case atStart => exact ⟨0, by omega, rfl, Below.refl _ _, rfl, .inl ⟨rfl, rfl⟩⟩
    case round =>
      obtain ⟨k, hk, rfl, hB, hO⟩ := hrel
      have BB := Lib.hid hB
      have OO := Lib.hid hO
      by_cases hlt : k < n
      · obtain ⟨c0, c1, c2⟩ := (HC.out k hlt).later hB hb
        have kc : (k : Int) < (n : Int) := by omega
        obtain ⟨f, hf⟩ : ∃ f, fs.getD k default = f := ⟨_, rfl⟩
        have HY := Lib.hid (keep_yes (day := day) (k := k) (f := f) (by omega) hf)
        have HN := Lib.hid (keep_no (day := day) (k := k) (f := f) (by omega) hf)
        have KL := Lib.hid (Nat.le_trans (keep_len day (fs.take k)) (List.length_take_le k fs))
        rw [hf] at c0 c1 c2
        obtain ⟨fd, fc, fa⟩ := f
        simp only at c0 c1 c2
        clear hB hO hf
        generalize keep day (fs.take k) = ks at *
        by_cases hd : fd ≤ day
        · have HK := Lib.hid (HY.out hd)
          clear HY HN
          go_wp2_with (at_builtin; refine wp_flow _ fd fa fc rfl _ _ rfl w.heap.size _ ks rfl (by simp only [World.size_alloc]; rfl) (OO.out.alloc _) (Nat.le_trans KL.out (by omega)) (Nat.le_trans BB.out.size (by simp)) ?_; intro v' w1 ho hg)
          obtain ⟨g', cap', rfl⟩ := own_sliceF ho
          have R1 := Lib.hid ho
          have R2 := Lib.hid (((BB.out.alloc BB.out.size _).alloc (Nat.le_trans BB.out.size (by simp)) _).grown hg (Nat.le_trans BB.out.size (by simp; omega)) (fun k e => (OO.out.lt k e).1))
          clear ho hg
          go_wp2
          go_roundw
          case rel => exact ⟨k + 1, by omega, by go_num, R2.out, by rw [HK.out]; exact R1.out⟩
          case measure => simp [intOf]; omega
        · have HK := Lib.hid (HN.out hd)
          clear HY HN
          go_wp2
          go_roundw
          case rel => exact ⟨k + 1, by omega, by go_num, BB.out.alloc BB.out.size _, by rw [HK.out]; exact OO.out.alloc _⟩
          case measure => simp [intOf]; omega
      · obtain rfl : k = n := by omega
        rw [List.take_of_length_le (by omega)] at OO
        clear hB hO
        go_wp2
        go_ret
        exact ⟨_, rfl, BB.out, OO.out⟩
set_option maxHeartbeats 2000000 in
theorem rUntil_any (a : Option Addr) (n cap : Nat) (fs : List Fl) (day : Int) (w : World) (h : FL w a n fs) :
    Calls Try.prog 20 #[.slice a n cap, .int .i64 day] w fun e w' => ∃ v, e = .returned v ∧ Below w.heap.size w w' ∧ w'.ownsRow w.heap.size 40 3 v (keep day fs).length (fcs (keep day fs)) := by
  obtain ⟨h1, h2, h3⟩ := h
  rcases h3 with h3 | ⟨b, o, rfl, hb, hc⟩
  · subst h3
    have hz : fs = [] := List.length_eq_zero_iff.1 h1
    subst hz
    go_enter Try.func20, Try.ntmps20
    go_wp2
    go_loopw [5, 6] (fun v t wr => v = .slice none 0 0 ∧ t = .int .i64 0 ∧ wr = w) (fun _ t _ => 0)
    case atStart => exact ⟨rfl, rfl, rfl⟩
    case round =>
      obtain ⟨rfl, rfl, rfl⟩ := hrel
      go_wp2
      go_ret
      exact ⟨_, rfl, Below.refl _ _, rfl, .inl ⟨rfl, rfl⟩⟩
  · have HC := Lib.hid hc
    clear hc
    go_enter Try.func20, Try.ntmps20
    go_wp2
    go_loopw [5, 6] (fun v t wr => ∃ k : Nat, k ≤ n ∧ t = .int .i64 k ∧ Below w.heap.size w wr ∧ wr.ownsRow w.heap.size 40 3 v (keep day (fs.take k)).length (fcs (keep day (fs.take k)))) (fun _ t _ => n - (intOf t).toNat)
    case atStart => exact ⟨0, by omega, rfl, Below.refl _ _, rfl, .inl ⟨rfl, rfl⟩⟩
    case round =>
      obtain ⟨k, hk, rfl, hB, hO⟩ := hrel
      have BB := Lib.hid hB
      have OO := Lib.hid hO
      by_cases hlt : k < n
      · obtain ⟨c0, c1, c2⟩ := (HC.out k hlt).later hB hb
        have kc : (k : Int) < (n : Int) := by omega
        obtain ⟨f, hf⟩ : ∃ f, fs.getD k default = f := ⟨_, rfl⟩
        have HY := Lib.hid (keep_yes (day := day) (k := k) (f := f) (by omega) hf)
        have HN := Lib.hid (keep_no (day := day) (k := k) (f := f) (by omega) hf)
        have KL := Lib.hid (Nat.le_trans (keep_len day (fs.take k)) (List.length_take_le k fs))
        rw [hf] at c0 c1 c2
        obtain ⟨fd, fc, fa⟩ := f
        simp only at c0 c1 c2
        clear hB hO hf
        generalize keep day (fs.take k) = ks at *
        by_cases hd : fd ≤ day
        · have HK := Lib.hid (HY.out hd)
          clear HY HN
          go_wp2_with (at_builtin; refine wp_flow _ fd fa fc rfl _ _ rfl w.heap.size _ ks rfl rfl OO.out (Nat.le_trans KL.out (by omega)) BB.out.size ?_; intro v' w1 ho hg)
          obtain ⟨g', cap', rfl⟩ := own_sliceF ho
          have R1 := Lib.hid ho
          have R2 := Lib.hid ((BB.out.alloc BB.out.size _).grown hg (Nat.le_trans BB.out.size (by simp)) (fun k e => (OO.out.lt k e).1))
          clear ho hg
          go_wp2
          go_roundw
          case rel => exact ⟨k + 1, by omega, by go_num, R2.out, by rw [HK.out]; exact R1.out⟩
          case measure => simp [intOf]; omega
        · have HK := Lib.hid (HN.out hd)
          clear HY HN
          go_wp2
          go_roundw
          case rel => exact ⟨k + 1, by omega, by go_num, BB.out, by rw [HK.out]; exact OO.out⟩
          case measure => simp [intOf]; omega
      · obtain rfl : k = n := by omega
        rw [List.take_of_length_le (by omega)] at OO
        clear hB hO
        go_wp2
        go_ret
        exact ⟨_, rfl, BB.out, OO.out⟩

set_option maxHeartbeats 2000000 in
theorem same_fl (a b : Option Addr) (n c1 c2 : Nat) (fs : List Fl) (w : World) (h : FL w a n fs) (h' : FL w b n fs) :
    Calls Try.prog 7 #[.slice a n c1, .slice b n c2] w fun e w' => e = .returned (.bool true) ∧ Below w.heap.size w w' := by
  obtain ⟨h1, h2, h3⟩ := h
  obtain ⟨_, _, h3'⟩ := h'
  rcases h3 with h3 | ⟨x, o, rfl, hx, hc⟩
  · subst h3
    go_enter Try.func7, Try.ntmps7
    go_wp2
    go_loopw [5] (fun t wr => t = .int .i64 0 ∧ wr = w) (fun t _ => 0)
    case atStart => exact ⟨rfl, rfl⟩
    case round =>
      obtain ⟨rfl, rfl⟩ := hrel
      go_wp2
      go_ret
      exact ⟨rfl, Below.refl _ _⟩
  · rcases h3' with h3' | ⟨y, p, rfl, hy, hd⟩
    · subst h3'
      go_enter Try.func7, Try.ntmps7
      go_wp2
      go_loopw [5] (fun t wr => t = .int .i64 0 ∧ wr = w) (fun t _ => 0)
      case atStart => exact ⟨rfl, rfl⟩
      case round =>
        obtain ⟨rfl, rfl⟩ := hrel
        go_wp2
        go_ret
        exact ⟨rfl, Below.refl _ _⟩
    · have HC := Lib.hid hc
      have HD := Lib.hid hd
      clear hc hd
      go_enter Try.func7, Try.ntmps7
      go_wp2
      go_loopw [5] (fun t wr => ∃ k : Nat, k ≤ n ∧ t = .int .i64 k ∧ Below w.heap.size w wr) (fun t _ => n - (intOf t).toNat)
      case atStart => exact ⟨0, by omega, rfl, Below.refl _ _⟩
      case round =>
        obtain ⟨k, hk, rfl, hB⟩ := hrel
        have BB := Lib.hid hB
        by_cases hlt : k < n
        · obtain ⟨c0, c1, c2⟩ := (HC.out k hlt).later hB hx
          obtain ⟨e0, e1, e2⟩ := (HD.out k hlt).later hB hy
          have kc : (k : Int) < (n : Int) := by omega
          generalize fs.getD k default = f at *
          obtain ⟨fd, fc, fa⟩ := f
          simp only at c0 c1 c2 e0 e1 e2
          clear hB
          go_wp2
          go_region
          all_goals
            go_wp2
            go_roundw
            case rel => exact ⟨k + 1, by omega, by go_num, BB.out.drew⟩
            case measure => simp [intOf]; omega
        · obtain rfl : k = n := by omega
          clear hB
          go_wp2
          go_ret
          exact ⟨rfl, BB.out⟩
end Go.Proofs.Ythhacbelbkkcmaa

namespace Go.Proofs.Ythhacbelbkkcmaa
open Go.RowKit
set_option linter.unusedVariables false
set_option linter.unusedSimpArgs false

theorem nets_short {fs : List Fl} {A : List (DC × Int)} (h : nets fs = some A) : A.length ≤ fs.length := by
  have := tally_short h
  simpa using this
/-- The sums of a list, ordered, and what is told with them. -/
def canN (fs : List Fl) : List Fl := match nets fs with
  | none => []
  | some A => exsort fLt (A.map fzN)
def canNQ (fs : List Fl) : Int := match nets fs with
  | none => 1
  | some _ => 0
theorem canN_len {fs : List Fl} {n : Nat} (hl : fs.length = n) : (canN fs).length ≤ n := by
  unfold canN
  split
  · simp
  · rename_i A hA
    rw [(exsort_perm fLt _ _ rfl).length_eq, List.length_map, ← hl]
    exact nets_short hA
theorem netA_can {fs : List Fl} {B : Nat} {v : Value} {q : Int} {w : World} (h : NetA fs B v q w) : q = canNQ fs ∧ OwnF w B v (canN fs) := by
  unfold canN canNQ
  rcases h with ⟨h1, rfl, rfl⟩ | ⟨A, ts, h1, rfl, hp, hs, ho⟩
  · rw [h1]; exact ⟨rfl, ⟨rfl, .inl ⟨rfl, rfl⟩⟩⟩
  · rw [h1]
    have e : ts = exsort fLt (A.map fzN) := exsort_only fLt (fun a b c h1 h2 => fLt_ntrans h2 h1) (fun a b h => fLt_asymm h) hp hs (fun a b _ _ h1 h2 => fLt_anti h1 h2)
    subst e
    exact ⟨rfl, ho⟩
set_option maxHeartbeats 1000000 in
theorem netR_any (a : Option Addr) (n cap : Nat) (fs : List Fl) (w : World) (h : FL w a n fs) (hw : ∀ i, i < n → inR (fs.getD i default).a ∧ (fs.getD i default).c.size ≤ maxLen) :
    Calls Try.prog 14 #[.slice a n cap] w fun e w' => ∃ v, e = .returned (.tuple #[v, .int .i64 (canNQ fs)]) ∧ Below w.heap.size w w' ∧ OwnF w' w.heap.size v (canN fs) := by
  have K := Lib.hid (sumsN_any a n cap fs w h hw)
  unfold canN canNQ
  clear h hw
  cases hN : nets fs with
  | none =>
    have K2 := Lib.hid (p := Calls Try.prog 28 #[.slice a n cap, .bool true] w fun e w' => e = .returned (.tuple #[.slice none 0 0, .bool false]) ∧ Below w.heap.size w w') (K.out.mono (by
      rintro e w' ⟨h1, h2⟩
      rcases h1 with ⟨_, rfl⟩ | ⟨A, v, h3, _⟩
      · exact ⟨rfl, h2⟩
      · rw [hN] at h3; cases h3))
    clear K hN
    go_enter Try.func14, Try.ntmps14
    go_wp2_with (go_at_call 28; refine K2.out.mono ?_; rintro e w' ⟨rfl, h1⟩; have B1 := Lib.hid h1; clear h1)
    go_ret2
    exact ⟨_, rfl, B1.out, ⟨rfl, .inl ⟨rfl, rfl⟩⟩⟩
  | some A =>
    have K2 := Lib.hid (p := Calls Try.prog 28 #[.slice a n cap, .bool true] w fun e w' => ∃ v, e = .returned (.tuple #[v, .bool true]) ∧ Below w.heap.size w w' ∧ OwnF w' w.heap.size v (exsort fLt (A.map fzN))) (K.out.mono (by
      rintro e w' ⟨h1, h2⟩
      rcases h1 with ⟨h3, _⟩ | ⟨A', v, h3, rfl, h4⟩
      · rw [hN] at h3; cases h3
      · rw [hN] at h3; injection h3 with h3; subst h3; exact ⟨v, rfl, h2, h4⟩))
    clear K hN
    simp only
    generalize exsort fLt (A.map fzN) = ls at *
    go_enter Try.func14, Try.ntmps14
    go_wp2_with (go_at_call 28; refine K2.out.mono ?_; rintro e w' ⟨v, rfl, h1, h2⟩; have B1 := Lib.hid h1; have O1 := Lib.hid h2; clear h1 h2)
    go_ret2
    exact ⟨_, rfl, B1.out, O1.out⟩
theorem ownF_later {w w' : World} {B : Nat} {v : Value} {fs : List Fl} (h : OwnF w B v fs) (hb : Below w.heap.size w w') : OwnF w' B v fs := World.ownsRow.kept h (below_gr0F hb) (Classical.em _)
end Go.Proofs.Ythhacbelbkkcmaa
