/-
  WALK: FlowPrints.
-/
import Derived.Test.YtmbnbediedpgmaaDoorWRPrint
import Derived.Test.YtmbnbediedpgmaaDoorWRoomy
import Derived.Lib.LaidTab
import Derived.Stop.LaidErr
namespace Go.Proofs.YtmbnbediedpgmaaDoor
open Go.RowKit
set_option linter.unusedVariables false
set_option linter.unusedSimpArgs false

theorem fl_of_is {w : World} {a : Option Addr} {len cap : Nat} {fs : List Fl} (hb : len * 32 ≤ 140737488351232) (h : IsFls w a len cap fs) : FL w a len fs := by
  rcases h with ⟨rfl, rfl, rfl, rfl⟩ | ⟨x, rfl, h1, h2, h3, h4, h5⟩
  · exact ⟨rfl, by omega, .inl rfl⟩
  · refine ⟨h3, by omega, ?_⟩
    by_cases h0 : len = 0
    · exact .inl h0
    · obtain ⟨b, o, s⟩ := x
      have hc := (h5 0 (by omega)).1
      have hs : s = none := by simpa [Addr.add] using World.cell?_spot hc
      subst hs
      refine .inr ⟨b, o, rfl, ?_, fun i hi => ?_⟩
      · have e : (⟨b, o, none⟩ : Addr).add (0 * 3) = ⟨b, o, none⟩ := by simp [Addr.add]
        rw [e] at hc
        by_cases hlt : b < w.heap.size
        · exact hlt
        · exfalso
          have hn : w.heap[b]? = none := by simp; omega
          simp [World.cell?, hn] at hc
      · have := h5 i hi
        rw [Go.Addr.add_lit, Go.Addr.add_lit, Go.Addr.add_lit] at this
        exact this
theorem rf_fl {w : World} {g n : Nat} {fs : List Fl} {x y z : Fl} (h : Rf w g (fs ++ [x, y, z])) (hl : fs.length = n) (hn : n ≤ 4398046511000) : FL w (some ⟨g, 0, none⟩) n fs := by
  refine ⟨hl, hn, .inr ⟨g, 0, rfl, h.lt, fun i hi => ?_⟩⟩
  have := h.fc i (by simp; omega)
  rw [Nat.zero_add]
  rwa [show (fs ++ [x, y, z]).getD i default = fs.getD i default by simp only [List.getD]; rw [List.getElem?_append_left (by omega)]] at this

theorem wf_of_is {w : World} {a : Option Addr} {len cap : Nat} {fs : List Fl} (h : IsFls w a len cap fs) : ∀ f ∈ fs, f.wf := by
  rcases h with ⟨_, _, _, rfl⟩ | ⟨x, _, _, _, _, h4, _⟩
  · intro f hf; cases hf
  · exact h4
theorem pw_eq : (Rows.laid_internal_strconv_uint64pow10 : DataW Unit) = Lib.tabData .u64 Lib.pow10Tab := by kernel_rfl
theorem pw_of_laid {w : World} {rest : List (String × DataW Unit)} (h : laidMet Tryd.prog (("internal/strconv.uint64pow10", Rows.laid_internal_strconv_uint64pow10) :: rest) w) : Pw w.heap.size w := by
  rw [pw_eq] at h
  exact Lib.tabBelow_of_tabIs (Lib.tabIs_of_head (g := 0) (t := 48) (e := 39) (n := 20) (by kernel_rfl) (by kernel_rfl) Tryd.underlying48 Tryd.underlying39 (by kernel_rfl) (by kernel_rfl) h)
theorem pr_out {fs : List Fl} {e : Ending} (h : PrE fs e) : ∃ (t : List UInt8) (er : Int), e = .returned (.tuple #[.string ⟨t.toArray⟩, .int .i64 er]) ∧ RowKit.Hid (PrS fs t er) := by
  obtain ⟨t, er, h1, h2⟩ := h
  exact ⟨t, er, h1, h2⟩

set_option maxHeartbeats 2000000 in
theorem flowPrints_walk (a : Option Addr) (n cap : Nat) (fs : List Fl) (w : World) (h : FL w a n fs) (hw : ∀ f ∈ fs, f.wf) (hP : Pw w.heap.size w) :
    Calls Tryd.prog 3 #[.slice a n cap] w fun e w' => e = .returned (.bool true) ∧ Below w.heap.size w w' := by
  have hl := h.1
  have hn := h.2.1
  have H := Lib.hid h
  have HP := Lib.hid hP
  have K1 := Lib.hid (roomy_any a n cap fs w h)
  have KU := Lib.hid (fun A C W (h : FL W A n fs) (p : Pw W.heap.size W) => print_any A n C fs W h hw p)
  have KR := Lib.hid (fun W (h : FL W a n fs) => rPrint_any a n cap fs W h hw)
  have KT := Lib.hid (fun W g (h : FL W a n fs) hg hR => untouched_any a n cap g fs W h hg hR)
  clear h hw hP
  go_enter Tryd.func3, Tryd.ntmps3
  go_wp2_with (first
    | (go_at_call 4; refine K1.out.mono ?_; rintro e w1 ⟨rfl, h1, h2⟩; have B1 := Lib.hid h1; have R1 := Lib.hid h2; clear h1 h2)
    | (go_at_call 5; refine (KU.out _ _ _ (rf_fl R1.out hl hn) (Lib.tabBelow_of_tabIs (HP.out _ B1.out))).mono ?_; rintro e w2 ⟨h1, h2⟩; obtain ⟨t, er, rfl, HS⟩ := pr_out h1; have B2 := Lib.hid h2; clear h1 h2)
    | (go_at_call 6; refine (KR.out _ (H.out.later (B1.out.trans (B2.out.mono B1.out.size)))).mono ?_; rintro e w3 ⟨h1, h2⟩; obtain ⟨t', er', rfl, HS'⟩ := pr_out h1; have B3 := Lib.hid (B2.out.trans (h2.mono B2.out.size)); clear h1 h2; obtain ⟨rfl, rfl⟩ := prs_one HS.out HS'.out)
    | (go_at_call 7; refine (KT.out _ _ (H.out.later (B1.out.trans (B3.out.mono B1.out.size))) (Nat.lt_of_lt_of_le R1.out.lt B3.out.size) (fun i hi => (R1.out.fc i (by simp; omega)).later B3.out R1.out.lt)).mono ?_; rintro e w6 ⟨rfl, h1⟩; have B6 := Lib.hid (B3.out.trans (h1.mono B3.out.size)); clear h1))
  all_goals go_ret
  all_goals exact ⟨by first | rfl | simp, B1.out.trans (B6.out.mono B1.out.size)⟩
end Go.Proofs.YtmbnbediedpgmaaDoor
