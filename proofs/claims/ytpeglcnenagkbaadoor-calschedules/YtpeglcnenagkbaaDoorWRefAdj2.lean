/-
  WALKS: month and Adjust (the document's).
-/
import Derived.Test.YtpeglcnenagkbaaDoorWRefAdj
import Derived.Test.YtpeglcnenagkbaaDoorWCal5
namespace Go.Proofs.YtpeglcnenagkbaaDoor
open Go.RowKit
open Cal
set_option linter.unusedVariables false
set_option linter.unusedSimpArgs false

/-- The number of a day's month. -/
def MonIs (n r : Int) : Prop := ∃ y m d : Int, exB y m d = true ∧ num y m d = n ∧ r = 12 * y + m
theorem mon_one {n r r' : Int} (h : MonIs n r) (h' : MonIs n r') : r = r' := by
  obtain ⟨y, m, d, a, b, c⟩ := h
  obtain ⟨y', m', d', a', b', c'⟩ := h'
  obtain ⟨p, q, _⟩ := num_inj a a' (b.trans b'.symm)
  omega
set_option maxHeartbeats 1000000 in
theorem month_any (n : Int) (w : World) (h0 : 0 ≤ n) (h1 : n < 109573) :
    Calls Tryd.prog 61 #[.int .i64 n] w fun e w' => (∃ r : Int, e = .returned (.int .i64 r) ∧ MonIs n r) ∧ Below w.heap.size w w' := by
  go_enter Tryd.func61, Tryd.ntmps61
  go_wp2_with (go_at_call 59; refine (refDate_yes _ _ h0 h1).mono ?_; rintro e w1 ⟨y, m, d, rfl, hx, hn, b1⟩; obtain ⟨p1, p2, p3, p4, p5, p6⟩ := ex_out hx; have HX := Lib.hid hx; have HN := Lib.hid hn; clear hx hn p6)
  go_ret
  exact ⟨⟨12 * y + m, rfl, y, m, d, HX.out, HN.out, rfl⟩, b1.alloc b1.size _⟩

/-- What Adjust answers, for a day of the calendar. -/
def EndIs (u r e : Int) : Prop := (u < 0 ∧ r = 0 ∧ e = 2) ∨ (0 ≤ u ∧ r = u ∧ e = 0)
def SameMon (u day : Int) : Prop := 0 ≤ u ∧ ∀ a b, MonIs u a → MonIs day b → a = b
def AdjIs (day conv : Int) (zs : List Int) (r e : Int) : Prop :=
  (conv = 0 ∧ r = day ∧ e = 0) ∨ (conv = 1 ∧ ∃ u, UpIs day u zs ∧ EndIs u r e) ∨ (conv = 3 ∧ ∃ v, DownIs day v zs ∧ EndIs v r e) ∨
  (conv = 2 ∧ ∃ u, UpIs day u zs ∧ ((SameMon u day ∧ r = u ∧ e = 0) ∨ (¬ SameMon u day ∧ ∃ v, DownIs day v zs ∧ EndIs v r e)))
theorem end_one {u r e r' e' : Int} (h : EndIs u r e) (h' : EndIs u r' e') : r = r' ∧ e = e' := by
  unfold EndIs at h h'; omega
theorem adj_one {day conv r e r' e' : Int} {zs : List Int} (h : AdjIs day conv zs r e) (h' : AdjIs day conv zs r' e') : r = r' ∧ e = e' := by
  unfold AdjIs at h h'
  rcases h with ⟨c, a, b⟩ | ⟨c, u, a, b⟩ | ⟨c, u, a, b⟩ | ⟨c, u, a, b⟩ <;> rcases h' with ⟨c', a', b'⟩ | ⟨c', u', a', b'⟩ | ⟨c', u', a', b'⟩ | ⟨c', u', a', b'⟩ <;> first
    | (exfalso; omega)
    | omega
    | skip
  · obtain rfl := up_one a a'; exact end_one b b'
  · obtain rfl := down_one a a'; exact end_one b b'
  · obtain rfl := up_one a a'
    rcases b with ⟨b1, b2⟩ | ⟨b1, v, b2, b3⟩ <;> rcases b' with ⟨d1, d2⟩ | ⟨d1, v', d2, d3⟩
    · omega
    · exact absurd b1 d1
    · exact absurd d1 b1
    · obtain rfl := down_one b2 d2; exact end_one b3 d3
theorem up_bd {day u : Int} {zs : List Int} (h : UpIs day u zs) : u = -1 ∨ (0 ≤ u ∧ u < 109573) := by
  rcases h with ⟨a, _⟩ | ⟨_, b, _⟩
  · exact .inl a
  · exact .inr (bus_in b)
theorem down_bd {day u : Int} {zs : List Int} (h : DownIs day u zs) : u = -1 ∨ (0 ≤ u ∧ u < 109573) := by
  rcases h with ⟨a, _⟩ | ⟨_, b, _⟩
  · exact .inl a
  · exact .inr (bus_in b)

set_option maxHeartbeats 1000000 in
theorem rAdjust_arg (a : Option Addr) (c cap : Nat) (day conv : Int) (w : World) (h : conv < 0 ∨ 3 < conv) :
    Calls Tryd.prog 45 #[.int .i64 day, .int .i64 conv, .slice a c cap] w fun e w' => e = .returned (.tuple #[.int .i64 0, .int .i64 1]) ∧ w' = w := by
  rcases h with h | h
  · go_enter Tryd.func45, Tryd.ntmps45
    go_wp2
    go_ret2
    exact ⟨rfl, rfl⟩
  · have h' : ¬ conv < 0 := by omega
    go_enter Tryd.func45, Tryd.ntmps45
    go_wp2
    go_ret2
    exact ⟨rfl, rfl⟩
set_option maxHeartbeats 1000000 in
theorem rAdjust_range (a : Option Addr) (c cap : Nat) (day conv : Int) (w : World) (c0 : 0 ≤ conv) (c3 : conv ≤ 3) (h : day < 0 ∨ 109573 ≤ day) :
    Calls Tryd.prog 45 #[.int .i64 day, .int .i64 conv, .slice a c cap] w fun e w' => e = .returned (.tuple #[.int .i64 0, .int .i64 2]) ∧ w' = w := by
  have k1 : ¬ conv < 0 := by omega
  have k2 : ¬ 3 < conv := by omega
  rcases h with h | h
  · go_enter Tryd.func45, Tryd.ntmps45
    go_wp2
    go_ret2
    exact ⟨rfl, rfl⟩
  · have h' : ¬ day < 0 := by omega
    go_enter Tryd.func45, Tryd.ntmps45
    go_wp2
    go_ret2
    exact ⟨rfl, rfl⟩
/-- How Adjust ends. -/
def AdjE (day conv : Int) (zs : List Int) (e : Ending) : Prop := ∃ r x : Int, e = .returned (.tuple #[.int .i64 r, .int .i64 x]) ∧ AdjIs day conv zs r x
set_option maxHeartbeats 1000000 in
theorem rAdjust_013 (a : Option Addr) (c cap : Nat) (zs : List Int) (day conv : Int) (w : World) (hL : Ls w a c zs) (d0 : 0 ≤ day) (d1 : day < 109573) (h : conv = 0 ∨ conv = 1 ∨ conv = 3) :
    Calls Tryd.prog 45 #[.int .i64 day, .int .i64 conv, .slice a c cap] w fun e w' => AdjE day conv zs e ∧ Below w.heap.size w w' := by
  have UP := Lib.hid (from_up a c cap zs day w hL d0 d1)
  have DN := Lib.hid (from_down a c cap zs day w hL d0 d1)
  clear hL
  have f1 : ¬ day < 0 := by omega
  have f2 : ¬ 109573 ≤ day := by omega
  rcases h with rfl | rfl | rfl
  · go_enter Tryd.func45, Tryd.ntmps45
    go_wp2
    go_ret2
    exact ⟨⟨day, 0, rfl, .inl ⟨rfl, rfl, rfl⟩⟩, Below.refl _ _⟩
  · go_enter Tryd.func45, Tryd.ntmps45
    go_wp2_with (go_at_call 60; refine UP.out.mono ?_; rintro e w1 ⟨u, rfl, hu, rfl⟩; have HU := Lib.hid hu; have ub := up_bd hu; clear hu)
    all_goals go_ret2
    all_goals first
      | exact ⟨⟨0, 2, rfl, .inr (.inl ⟨rfl, u, HU.out, .inl ⟨by omega, rfl, rfl⟩⟩)⟩, Below.refl _ _⟩
      | exact ⟨⟨u, 0, rfl, .inr (.inl ⟨rfl, u, HU.out, .inr ⟨by omega, rfl, rfl⟩⟩)⟩, Below.refl _ _⟩
  · go_enter Tryd.func45, Tryd.ntmps45
    go_wp2_with (go_at_call 60; refine DN.out.mono ?_; rintro e w1 ⟨u, rfl, hu, rfl⟩; have HU := Lib.hid hu; have ub := down_bd hu; clear hu)
    all_goals go_ret2
    all_goals first
      | exact ⟨⟨0, 2, rfl, .inr (.inr (.inl ⟨rfl, u, HU.out, .inl ⟨by omega, rfl, rfl⟩⟩))⟩, Below.refl _ _⟩
      | exact ⟨⟨u, 0, rfl, .inr (.inr (.inl ⟨rfl, u, HU.out, .inr ⟨by omega, rfl, rfl⟩⟩))⟩, Below.refl _ _⟩

theorem up_ex (zs : List Int) : ∀ (k : Nat) (day : Int), (109573 - day).toNat ≤ k → ∃ u, UpIs day u zs
  | 0, day, h => ⟨-1, .inl ⟨rfl, fun x hx => bus_out (by omega)⟩⟩
  | k + 1, day, h => by
    cases q : busB day zs with
    | true => exact ⟨day, .inr ⟨by omega, q, fun x a b => absurd b (by omega)⟩⟩
    | false =>
      by_cases r : 109573 ≤ day
      · exact ⟨-1, .inl ⟨rfl, fun x hx => bus_out (by omega)⟩⟩
      · obtain ⟨u, hu⟩ := up_ex zs k (day + 1) (by omega)
        refine ⟨u, ?_⟩
        rcases hu with ⟨a, b⟩ | ⟨a, b, c⟩
        · exact .inl ⟨a, fun x hx => by
            rcases (show x = day ∨ day + 1 ≤ x by omega) with e | e
            · rw [e]; exact q
            · exact b x e⟩
        · exact .inr ⟨by omega, b, fun x hx hr => by
            rcases (show x = day ∨ day + 1 ≤ x by omega) with e | e
            · rw [e]; exact q
            · exact c x e hr⟩

set_option maxHeartbeats 2000000 in
theorem rAdjust_2 (a : Option Addr) (c cap : Nat) (zs : List Int) (day : Int) (w : World) (hL : Ls w a c zs) (d0 : 0 ≤ day) (d1 : day < 109573) :
    Calls Tryd.prog 45 #[.int .i64 day, .int .i64 2, .slice a c cap] w fun e w' => AdjE day 2 zs e ∧ Below w.heap.size w w' := by
  have UP := Lib.hid (from_up a c cap zs day w hL d0 d1)
  have f1 : ¬ day < 0 := by omega
  have f2 : ¬ 109573 ≤ day := by omega
  obtain ⟨u, hu⟩ := up_ex zs _ day (Nat.le_refl _)
  have HU := Lib.hid hu
  have ub := up_bd hu
  clear hu
  rcases ub with rfl | ⟨u0, u1⟩
  · have DN := Lib.hid (from_down a c cap zs day w hL d0 d1)
    clear hL
    go_enter Tryd.func45, Tryd.ntmps45
    go_wp2_with (go_at_call 60; (first
      | (have qq := Q1; refine DN.out.mono ?_; rintro e w2 ⟨v, rfl, hv, rfl⟩; have HV := Lib.hid hv; have vb := down_bd hv; clear hv)
      | (refine UP.out.mono ?_; rintro e w1 ⟨u', rfl, hu', rfl⟩; obtain rfl := up_one HU.out hu'; have Q1 := Lib.hid (p := (1 : Nat) = 1) rfl; clear hu')))
    all_goals go_ret2
    all_goals first
      | exact ⟨⟨0, 2, rfl, .inr (.inr (.inr ⟨rfl, -1, HU.out, .inr ⟨fun z => absurd z.1 (by omega), v, HV.out, .inl ⟨by omega, rfl, rfl⟩⟩⟩))⟩, Below.refl _ _⟩
      | exact ⟨⟨v, 0, rfl, .inr (.inr (.inr ⟨rfl, -1, HU.out, .inr ⟨fun z => absurd z.1 (by omega), v, HV.out, .inr ⟨by omega, rfl, rfl⟩⟩⟩))⟩, Below.refl _ _⟩
  · have un : ¬ u < 0 := by omega
    have LL := Lib.hid hL
    clear hL
    go_enter Tryd.func45, Tryd.ntmps45
    go_wp2_with (first
      | (go_at_call 60; (first
        | (have qq := Q1; refine (from_down a c cap zs day _ (LL.out.later b2) d0 d1).mono ?_; rintro e w4 ⟨v, rfl, hv, rfl⟩; have HV := Lib.hid hv; have vb := down_bd hv; clear hv)
        | (refine UP.out.mono ?_; rintro e w1 ⟨u', rfl, hu', rfl⟩; obtain rfl := up_one HU.out hu'; have Q1 := Lib.hid (p := (1 : Nat) = 1) rfl; clear hu')))
      | (go_at_call 61; (first
        | (have qq := b1; refine (month_any _ _ d0 d1).mono ?_; rintro e w3 ⟨⟨y, rfl, hy⟩, h3⟩; have HY := Lib.hid hy; have b2 := b1.trans (h3.mono b1.size); clear hy)
        | (refine (month_any _ _ u0 u1).mono ?_; rintro e w2 ⟨⟨x, rfl, hx⟩, b1⟩; have HX := Lib.hid hx; clear hx))))
    all_goals go_ret2
    all_goals first
      | exact ⟨⟨0, 2, rfl, .inr (.inr (.inr ⟨rfl, u, HU.out, .inr ⟨fun z => absurd (z.2 x y HX.out HY.out) (by first | assumption | simp_all), v, HV.out, .inl ⟨by omega, rfl, rfl⟩⟩⟩))⟩, by assumption⟩
      | exact ⟨⟨v, 0, rfl, .inr (.inr (.inr ⟨rfl, u, HU.out, .inr ⟨fun z => absurd (z.2 x y HX.out HY.out) (by first | assumption | simp_all), v, HV.out, .inr ⟨by omega, rfl, rfl⟩⟩⟩))⟩, by assumption⟩
      | exact ⟨⟨u, 0, rfl, .inr (.inr (.inr ⟨rfl, u, HU.out, .inl ⟨⟨u0, fun a b ha hb => by rw [mon_one ha HX.out, mon_one hb HY.out]; first | assumption | simp_all⟩, rfl, rfl⟩⟩))⟩, by assumption⟩
end Go.Proofs.YtpeglcnenagkbaaDoor
