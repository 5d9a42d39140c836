/-
  WALKS: Until, the program's and the document's.
-/
import Derived.Test.YtmdgfcldohmjdaaDoorWFlows
namespace Go.Proofs.YtmdgfcldohmjdaaDoor
open Go.RowKit
set_option linter.unusedVariables false
set_option linter.unusedSimpArgs false

def keep (day : Int) (fs : List Fl) : List Fl := fs.filter (fun f => decide (f.d ≤ day))
theorem keep_yes {day : Int} {fs : List Fl} {k : Nat} {f : Fl} (hk : k < fs.length) (hf : fs.getD k default = f) (h : f.d ≤ day) : keep day (fs.take (k + 1)) = keep day (fs.take k) ++ [f] := by
  have e : fs[k]? = some f := by rw [List.getElem?_eq_getElem hk, ← hf]; simp [List.getD, hk]
  unfold keep
  rw [List.take_add_one, e]
  simp [h]
theorem keep_no {day : Int} {fs : List Fl} {k : Nat} {f : Fl} (hk : k < fs.length) (hf : fs.getD k default = f) (h : ¬ f.d ≤ day) : keep day (fs.take (k + 1)) = keep day (fs.take k) := by
  have e : fs[k]? = some f := by rw [List.getElem?_eq_getElem hk, ← hf]; simp [List.getD, hk]
  unfold keep
  rw [List.take_add_one, e]
  simp [h]
theorem keep_len (day : Int) (fs : List Fl) : (keep day fs).length ≤ fs.length := List.length_filter_le _ _

set_option maxHeartbeats 2000000 in
theorem until_any (a : Option Addr) (n cap : Nat) (fs : List Fl) (day : Int) (w : World) (h : FL w a n fs) :
    Calls Tryd.prog 13 #[.slice a n cap, .int .i64 day] w fun e w' => ∃ v, e = .returned v ∧ Below w.heap.size w w' ∧ w'.ownsRow w.heap.size 32 3 v (keep day fs).length (fcs (keep day fs)) := by
  obtain ⟨h1, h2, h3⟩ := h
  rcases h3 with h3 | ⟨b, o, rfl, hb, hc⟩
  · subst h3
    have hz : fs = [] := List.length_eq_zero_iff.1 h1
    subst hz
    go_enter Tryd.func13, Tryd.ntmps13
    go_wp2
    go_loopw [5, 10] (fun v t wr => v = .slice none 0 0 ∧ t = .int .i64 0 ∧ wr = w) (fun _ t _ => 0)
    case atStart => exact ⟨rfl, rfl, rfl⟩
    case round =>
      obtain ⟨rfl, rfl, rfl⟩ := hrel
      go_wp2
      go_ret
      exact ⟨_, rfl, Below.refl _ _, rfl, .inl ⟨rfl, rfl⟩⟩
  · have HC := Lib.hid hc
    clear hc
    go_enter Tryd.func13, Tryd.ntmps13
    go_wp2
    go_loopw [5, 10] (fun v t wr => ∃ k : Nat, k ≤ n ∧ t = .int .i64 k ∧ Below w.heap.size w wr ∧ wr.ownsRow w.heap.size 32 3 v (keep day (fs.take k)).length (fcs (keep day (fs.take k)))) (fun _ t _ => n - (intOf t).toNat)
    case atStart => exact ⟨0, by omega, rfl, Below.refl _ _, rfl, .inl ⟨rfl, rfl⟩⟩
    case round =>
      obtain ⟨k, hk, rfl, hB, hO⟩ := hrel
      have BB := Lib.hid hB
      have OO := Lib.hid hO
      by_cases hlt : k < n
      · obtain ⟨c0, c1, c2⟩ := (HC.out k hlt).later hB hb
        have kc : (k : Int) < (n : Int) := by omega
        obtain ⟨f, hf⟩ : ∃ f, fs.getD k default = f := ⟨_, rfl⟩
        have HY := Lib.hid (keep_yes (day := day) (k := k) (f := f) (by omega) hf)
        have HN := Lib.hid (keep_no (day := day) (k := k) (f := f) (by omega) hf)
        have KL := Lib.hid (Nat.le_trans (keep_len day (fs.take k)) (List.length_take_le k fs))
        rw [hf] at c0 c1 c2
        obtain ⟨fd, fc, fa⟩ := f
        simp only at c0 c1 c2
        clear hB hO hf
        generalize keep day (fs.take k) = ks at *
        by_cases hd : fd ≤ day
        · have HK := Lib.hid (HY.out hd)
          clear HY HN
          go_wp2_with (at_builtin; refine wp_flow _ fd fa fc rfl _ _ rfl w.heap.size _ ks rfl (by simp only [World.size_alloc]; rfl) (OO.out.alloc _) (Nat.le_trans KL.out (by omega)) (Nat.le_trans BB.out.size (by simp)) ?_; intro v' w1 ho hg)
          obtain ⟨g', cap', rfl⟩ := own_sliceF ho
          have R1 := Lib.hid ho
          have R2 := Lib.hid (((BB.out.alloc BB.out.size _).alloc (Nat.le_trans BB.out.size (by simp)) _).grown hg (Nat.le_trans BB.out.size (by simp; omega)) (fun k e => (OO.out.lt k e).1))
          clear ho hg
          go_wp2
          go_roundw
          case rel => exact ⟨k + 1, by omega, by go_num, R2.out, by rw [HK.out]; exact R1.out⟩
          case measure => simp [intOf]; omega
        · have HK := Lib.hid (HN.out hd)
          clear HY HN
          go_wp2
          go_roundw
          case rel => exact ⟨k + 1, by omega, by go_num, BB.out.alloc BB.out.size _, by rw [HK.out]; exact OO.out.alloc _⟩
          case measure => simp [intOf]; omega
      · obtain rfl : k = n := by omega
        rw [List.take_of_length_le (by omega)] at OO
        clear hB hO
        go_wp2
        go_ret
        exact ⟨_, rfl, BB.out, OO.out⟩
theorem sEq_self (c : ByteArray) : (c.toList == c.toList) = true := beq_self_eq_true _

set_option maxHeartbeats 2000000 in
theorem same_fl (a b : Option Addr) (n c1 c2 : Nat) (fs : List Fl) (w : World) (h : FL w a n fs) (h' : FL w b n fs) :
    Calls Tryd.prog 12 #[.slice a n c1, .slice b n c2] w fun e w' => e = .returned (.bool true) ∧ Below w.heap.size w w' := by
  obtain ⟨h1, h2, h3⟩ := h
  obtain ⟨_, _, h3'⟩ := h'
  rcases h3 with h3 | ⟨x, o, rfl, hx, hc⟩
  · subst h3
    go_enter Tryd.func12, Tryd.ntmps12
    go_wp2
    go_loopw [5] (fun t wr => t = .int .i64 0 ∧ wr = w) (fun t _ => 0)
    case atStart => exact ⟨rfl, rfl⟩
    case round =>
      obtain ⟨rfl, rfl⟩ := hrel
      go_wp2
      go_ret
      exact ⟨rfl, Below.refl _ _⟩
  · rcases h3' with h3' | ⟨y, p, rfl, hy, hd⟩
    · subst h3'
      go_enter Tryd.func12, Tryd.ntmps12
      go_wp2
      go_loopw [5] (fun t wr => t = .int .i64 0 ∧ wr = w) (fun t _ => 0)
      case atStart => exact ⟨rfl, rfl⟩
      case round =>
        obtain ⟨rfl, rfl⟩ := hrel
        go_wp2
        go_ret
        exact ⟨rfl, Below.refl _ _⟩
    · have HC := Lib.hid hc
      have HD := Lib.hid hd
      clear hc hd
      go_enter Tryd.func12, Tryd.ntmps12
      go_wp2
      go_loopw [5] (fun t wr => ∃ k : Nat, k ≤ n ∧ t = .int .i64 k ∧ Below w.heap.size w wr) (fun t _ => n - (intOf t).toNat)
      case atStart => exact ⟨0, by omega, rfl, Below.refl _ _⟩
      case round =>
        obtain ⟨k, hk, rfl, hB⟩ := hrel
        have BB := Lib.hid hB
        by_cases hlt : k < n
        · obtain ⟨c0, c1, c2⟩ := (HC.out k hlt).later hB hx
          obtain ⟨e0, e1, e2⟩ := (HD.out k hlt).later hB hy
          have kc : (k : Int) < (n : Int) := by omega
          generalize fs.getD k default = f at *
          obtain ⟨fd, fc, fa⟩ := f
          simp only at c0 c1 c2 e0 e1 e2
          clear hB
          go_wp2
          go_region
          all_goals
            go_wp2
            go_roundw
            case rel => exact ⟨k + 1, by omega, by go_num, BB.out.drew⟩
            case measure => simp [intOf]; omega
        · obtain rfl : k = n := by omega
          clear hB
          go_wp2
          go_ret
          exact ⟨rfl, BB.out⟩
end Go.Proofs.YtmdgfcldohmjdaaDoor
