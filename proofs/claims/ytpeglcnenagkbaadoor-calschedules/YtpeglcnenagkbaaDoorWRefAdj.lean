/-
  WALKS: Business and from (the document's).
-/
import Derived.Test.YtpeglcnenagkbaaDoorWCont
namespace Go.Proofs.YtpeglcnenagkbaaDoor
open Go.RowKit
set_option linter.unusedVariables false
set_option linter.unusedSimpArgs false

set_option maxHeartbeats 1000000 in
theorem rBusiness_any (a : Option Addr) (c cap : Nat) (zs : List Int) (n : Int) (w : World) (h : Ls w a c zs) :
    Calls Tryd.prog 31 #[.int .i64 n, .slice a c cap] w fun e w' => e = .returned (.bool (busB n zs)) ∧ w' = w := by
  by_cases g : 0 ≤ n ∧ n < 109573 ∧ n % 7 ≤ 4
  · obtain ⟨g1, g2, g3⟩ := g
    have hb : busB n zs = !decide (n ∈ zs) := by unfold busB; by_cases q : n ∈ zs <;> simp [q, g1, g2]; omega
    obtain ⟨V, hV⟩ : ∃ V, busB n zs = V := ⟨_, rfl⟩
    have HV := Lib.hid (hb.symm.trans hV)
    rw [hV]; clear hV hb
    obtain ⟨h1, h2, h3⟩ := h
    have H1 := Lib.hid h1
    have H3 := Lib.hid h3
    clear h1 h3
    have f1 : ¬ n < 0 := by omega
    have f2 : ¬ 109573 ≤ n := by omega
    have f3 : ¬ 4 < n % 7 := by omega
    go_enter Tryd.func31, Tryd.ntmps31
    go_wp2
    go_loop [5] (fun t => ∃ k : Nat, k ≤ c ∧ t = .int .i64 k ∧ RowKit.Hid (∀ j, j < k → zs.getD j 0 ≠ n)) (fun t => c - (intOf t).toNat)
    case atStart => exact ⟨0, Nat.zero_le _, rfl, fun j hj => absurd hj (by omega)⟩
    case round =>
      obtain ⟨k, hk, rfl, hN⟩ := hrel
      by_cases hlt : k < c
      · obtain ⟨b, o, rfl, hb, hc⟩ : ∃ b o, a = some ⟨b, o, none⟩ ∧ b < w.heap.size ∧ ∀ i, i < c → w.cell? ⟨b, o + i, none⟩ = some (.int .i64 (zs.getD i 0)) := by
          rcases H3.out with q | q
          · omega
          · exact q
        have hcell := hc k hlt
        have MEM := Lib.hid (p := zs.getD k 0 ∈ zs) (by
          have : k < zs.length := by rw [H1.out]; exact hlt
          rw [List.getD_eq_getElem?_getD, List.getElem?_eq_getElem this]; simp)
        generalize hz : zs.getD k 0 = z at *
        have HZ := Lib.hid hz
        clear hz hc
        by_cases hx : z = n
        · subst hx
          go_wp2
          go_ret
          exact ⟨retC_bool (by rw [← HV.out, decide_eq_true MEM.out]; rfl), rfl⟩
        · go_wp2
          go_round
          case rel => exact ⟨k + 1, by omega, by go_num, fun j hj => by
            rcases (show j < k ∨ j = k by omega) with q | q
            · exact hN.out j q
            · rw [q, HZ.out]; exact hx⟩
          case measure => simp [intOf]; omega
      · obtain rfl : k = c := by omega
        have NN := Lib.hid (p := ¬ n ∈ zs) (by
          intro hm
          obtain ⟨j, hj, he⟩ := List.getElem_of_mem hm
          refine hN.out j (by rw [← H1.out]; exact hj) ?_
          rw [List.getD_eq_getElem?_getD, List.getElem?_eq_getElem hj]; simpa using he)
        go_wp2
        go_ret
        exact ⟨retC_bool (by rw [← HV.out, decide_eq_false NN.out]; rfl), rfl⟩
  · have e : busB n zs = false := by unfold busB; refine decide_eq_false ?_; omega
    rw [e]; clear e h
    by_cases f1 : n < 0
    · clear g
      go_enter Tryd.func31, Tryd.ntmps31
      go_wp2
      go_ret
      exact ⟨rfl, rfl⟩
    · by_cases f2 : 109573 ≤ n
      · clear g
        go_enter Tryd.func31, Tryd.ntmps31
        go_wp2
        go_ret
        exact ⟨rfl, rfl⟩
      · have f3 : 4 < n % 7 := by omega
        clear g
        go_enter Tryd.func31, Tryd.ntmps31
        go_wp2
        go_ret
        exact ⟨rfl, rfl⟩

/-- The first business day from a day on (-1: there is none). -/
def UpIs (day r : Int) (zs : List Int) : Prop := (r = -1 ∧ ∀ x, day ≤ x → busB x zs = false) ∨ (day ≤ r ∧ busB r zs = true ∧ ∀ x, day ≤ x → x < r → busB x zs = false)
def DownIs (day r : Int) (zs : List Int) : Prop := (r = -1 ∧ ∀ x, x ≤ day → busB x zs = false) ∨ (r ≤ day ∧ busB r zs = true ∧ ∀ x, x ≤ day → r < x → busB x zs = false)
theorem bus_in {n : Int} {zs : List Int} (h : busB n zs = true) : 0 ≤ n ∧ n < 109573 := by
  have := of_decide_eq_true h; omega
theorem bus_out {n : Int} {zs : List Int} (h : ¬ (0 ≤ n ∧ n < 109573)) : busB n zs = false := by
  cases q : busB n zs with
  | false => rfl
  | true => exact absurd (bus_in q) h
theorem up_one {day r r' : Int} {zs : List Int} (h : UpIs day r zs) (h' : UpIs day r' zs) : r = r' := by
  rcases h with ⟨rfl, a⟩ | ⟨a, b, c⟩ <;> rcases h' with ⟨rfl, a'⟩ | ⟨a', b', c'⟩
  · rfl
  · rw [a r' a'] at b'; cases b'
  · rw [a' r a] at b; cases b
  · rcases Int.lt_trichotomy r r' with g | g | g
    · rw [c' r a g] at b; cases b
    · exact g
    · rw [c r' a' g] at b'; cases b'
theorem down_one {day r r' : Int} {zs : List Int} (h : DownIs day r zs) (h' : DownIs day r' zs) : r = r' := by
  rcases h with ⟨rfl, a⟩ | ⟨a, b, c⟩ <;> rcases h' with ⟨rfl, a'⟩ | ⟨a', b', c'⟩
  · rfl
  · rw [a r' a'] at b'; cases b'
  · rw [a' r a] at b; cases b
  · rcases Int.lt_trichotomy r r' with g | g | g
    · rw [c r' a' g] at b'; cases b'
    · exact g
    · rw [c' r a g] at b; cases b

set_option maxHeartbeats 1000000 in
theorem from_up (a : Option Addr) (c cap : Nat) (zs : List Int) (day : Int) (w : World) (h : Ls w a c zs) (d0 : 0 ≤ day) (d1 : day < 109573) :
    Calls Tryd.prog 60 #[.int .i64 day, .int .i64 1, .slice a c cap] w fun e w' => ∃ r : Int, e = .returned (.int .i64 r) ∧ UpIs day r zs ∧ w' = w := by
  have BU := Lib.hid (fun n => rBusiness_any a c cap zs n w h)
  clear h
  go_enter Tryd.func60, Tryd.ntmps60
  go_wp2
  go_loop [7] (fun t => ∃ d : Int, day ≤ d ∧ d ≤ 109573 ∧ t = .int .i64 d ∧ RowKit.Hid (∀ x, day ≤ x → x < d → busB x zs = false)) (fun t => (109573 - intOf t).toNat)
  case atStart => exact ⟨day, by omega, by omega, rfl, fun x a b => absurd b (by omega)⟩
  case round =>
    obtain ⟨d, e1, e2, rfl, hN⟩ := hrel
    by_cases hlt : d < 109573
    · cases hb : busB d zs with
      | true =>
        have HB := Lib.hid hb
        clear hb
        go_wp2_with (go_at_call 31; refine (BU.out _).mono ?_; rintro e w' ⟨rfl, rfl⟩; rw [HB.out])
        go_ret
        exact ⟨d, rfl, .inr ⟨e1, HB.out, hN.out⟩, rfl⟩
      | false =>
        have HB := Lib.hid hb
        clear hb
        go_wp2_with (go_at_call 31; refine (BU.out _).mono ?_; rintro e w' ⟨rfl, rfl⟩; rw [HB.out])
        go_round
        case rel => exact ⟨d + 1, by omega, by omega, rfl, fun x a b => by
          rcases (show x < d ∨ x = d by omega) with q | q
          · exact hN.out x a q
          · rw [q]; exact HB.out⟩
        case measure => simp [intOf]; omega
    · have f : decide (d < 109573) = false := by simpa using hlt
      go_wp2
      go_ret
      exact ⟨-1, rfl, .inl ⟨rfl, fun x hx => by
        by_cases q : x < d
        · exact hN.out x hx q
        · exact bus_out (by omega)⟩, rfl⟩

set_option maxHeartbeats 1000000 in
theorem from_down (a : Option Addr) (c cap : Nat) (zs : List Int) (day : Int) (w : World) (h : Ls w a c zs) (d0 : 0 ≤ day) (d1 : day < 109573) :
    Calls Tryd.prog 60 #[.int .i64 day, .int .i64 (-1), .slice a c cap] w fun e w' => ∃ r : Int, e = .returned (.int .i64 r) ∧ DownIs day r zs ∧ w' = w := by
  have BU := Lib.hid (fun n => rBusiness_any a c cap zs n w h)
  clear h
  go_enter Tryd.func60, Tryd.ntmps60
  go_wp2
  go_loop [7] (fun t => ∃ d : Int, d ≤ day ∧ -1 ≤ d ∧ t = .int .i64 d ∧ RowKit.Hid (∀ x, x ≤ day → d < x → busB x zs = false)) (fun t => (intOf t + 1).toNat)
  case atStart => exact ⟨day, by omega, by omega, rfl, fun x a b => absurd b (by omega)⟩
  case round =>
    obtain ⟨d, e1, e2, rfl, hN⟩ := hrel
    by_cases hlt : 0 ≤ d
    · have d9 : d < 109573 := by omega
      cases hb : busB d zs with
      | true =>
        have HB := Lib.hid hb
        clear hb
        go_wp2_with (go_at_call 31; refine (BU.out _).mono ?_; rintro e w' ⟨rfl, rfl⟩; rw [HB.out])
        go_ret
        exact ⟨d, rfl, .inr ⟨e1, HB.out, hN.out⟩, rfl⟩
      | false =>
        have HB := Lib.hid hb
        clear hb
        go_wp2_with (go_at_call 31; refine (BU.out _).mono ?_; rintro e w' ⟨rfl, rfl⟩; rw [HB.out])
        go_round
        case rel => exact ⟨d - 1, by omega, by omega, by go_num, fun x a b => by
          rcases (show d < x ∨ x = d by omega) with q | q
          · exact hN.out x a q
          · rw [q]; exact HB.out⟩
        case measure => simp [intOf]; omega
    · have f : decide (0 ≤ d) = false := by simpa using hlt
      go_wp2
      go_ret
      exact ⟨-1, rfl, .inl ⟨rfl, fun x hx => by
        by_cases q : d < x
        · exact hN.out x hx q
        · exact bus_out (by omega)⟩, rfl⟩
end Go.Proofs.YtpeglcnenagkbaaDoor
