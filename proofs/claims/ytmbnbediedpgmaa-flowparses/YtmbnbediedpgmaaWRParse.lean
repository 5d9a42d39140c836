/-
  WALK: Parse (the document's).
-/
import Derived.Test.YtmbnbediedpgmaaWRLine
namespace Go.Proofs.Ytmbnbediedpgmaa
open Go.RowKit
set_option linter.unusedVariables false
set_option linter.unusedSimpArgs false

theorem own_later3 {w w' : World} {B e s n : Nat} {v : Value} {xs : List Value} (h : w.ownsRow B e s v n xs) (hb : Below w.heap.size w w') : w'.ownsRow B e s v n xs := by
  obtain ⟨h1, h2⟩ := h
  refine ⟨h1, ?_⟩
  rcases h2 with h2 | ⟨g, cap, cur, rfl, hB, hg, r⟩
  · exact .inl h2
  · exact .inr ⟨g, cap, cur, rfl, hB, (hb.block g (Array.getElem?_eq_some_iff.1 hg).1).trans hg, r⟩
theorem line_le {s : ByteArray} {at_ k : Nat} {f : Fl} (h : LineS s at_ k (some f)) : k ≤ s.size := by
  obtain ⟨k1, d, wh1, n1, h⟩ := h
  rcases h with ⟨_, _, c⟩ | ⟨_, _, k2, wh2, n2, h⟩
  · cases c
  rcases h with ⟨_, _, c⟩ | ⟨_, _, k3, m, wh3, n3, h⟩
  · cases c
  rcases h with ⟨_, _, c⟩ | ⟨_, a, b, _⟩
  · cases c
  · have : k3 < s.size := Nat.lt_of_not_le fun h => by rw [at8_end (by omega)] at a; omega
    omega

set_option maxRecDepth 100000 in
set_option maxHeartbeats 4000000 in
theorem rParse_any (s : ByteArray) (w : World) (hs : s.size ≤ maxLen) :
    Calls Try.prog 17 #[.string s] w fun e w' => ParE s w.heap.size w' e ∧ Below w.heap.size w w' := by
  by_cases hl : 1048576 < s.size
  · have hc : (1048576 : Int) < (s.size : Int) := by omega
    go_enter Try.func17, Try.ntmps17
    go_wp2
    exact bodyPost_ret (v := .tuple #[.slice none 0 0, .int .i64 0, .int .i64 6]) (by simp [results, Try.results17, go_sem]) rfl ⟨⟨_, [], 0, 6, rfl, by simp, ⟨rfl, .inl ⟨rfl, rfl⟩⟩, .inl ⟨hl, rfl, rfl, rfl⟩⟩, Below.refl _ _⟩
  · have hc : ¬ (1048576 : Int) < (s.size : Int) := by omega
    have hz : s.size ≤ 1048576 := by omega
    go_enter Try.func17, Try.ntmps17
    go_wp2
    go_loopw [5, 6] (fun v a wr => ∃ (at_ : Nat) (fs : List Fl), fs.length ≤ at_ ∧ at_ ≤ s.size ∧ a = .int .i64 at_ ∧ RowKit.Hid (∀ gs p e, Run s at_ fs gs p e → Run s 0 [] gs p e) ∧ Below w.heap.size w wr ∧ wr.ownsRow w.heap.size 32 3 v fs.length (fcs fs)) (fun v a wr => s.size - (intOf a).toNat)
    case atStart => exact ⟨0, [], by simp, by omega, rfl, fun _ _ _ h => h, Below.refl _ _, rfl, .inl ⟨rfl, rfl⟩⟩
    case round =>
      obtain ⟨at_, fs, fl, ale, rfl, HRun, hB, hO⟩ := hrel
      have BB := Lib.hid hB
      have OO := Lib.hid hO
      clear hB hO
      by_cases hk : at_ < s.size
      · have kc : (at_ : Int) < (s.size : Int) := by omega
        have KL := Lib.hid (rline_any s at_ wr ale hz)
        go_wp2_with fail
        refine KL.out.mono ?_
        rintro e w1 ⟨k, r, hL, hE, hb1⟩
        have LL := Lib.hid hL
        have B1 := Lib.hid (BB.out.trans (hb1.mono BB.out.size))
        have O1 := Lib.hid (own_later3 OO.out hb1)
        clear hb1 hL
        rcases hE with ⟨rfl, zd, zc, rfl⟩ | ⟨f, rfl, rfl⟩
        · have RES := Lib.hid (HRun.out _ _ _ (Run.bad hk LL.out))
          go_wp2
          exact bodyPost_ret (v := .tuple #[.slice none 0 0, .int .i64 (k : Int), .int .i64 31]) (by simp [results, Try.results17, go_sem]) rfl ⟨⟨_, [], k, 31, rfl, by simp, ⟨rfl, .inl ⟨rfl, rfl⟩⟩, .inr ⟨hz, RES.out⟩⟩, B1.out.alloc B1.out.size _⟩
        · obtain ⟨fd, fc, fa⟩ := f
          have lt := line_lt LL.out
          have ks : k ≤ s.size := line_le LL.out
          have ST := Lib.hid (p := ∀ gs p e, Run s k (fs ++ [⟨fd, fc, fa⟩]) gs p e → Run s 0 [] gs p e) (fun gs p e r => HRun.out gs p e (Run.step hk LL.out r))
          go_wp2_with (at_builtin; refine wp_flow _ fd fa fc rfl _ _ rfl w.heap.size _ fs rfl (by simp only [World.size_alloc]; rfl) (O1.out.alloc _) (by omega) (Nat.le_trans B1.out.size (by simp)) ?_; intro v' w2 ho hg)
          refine ⟨⟨k, fs ++ [⟨fd, fc, fa⟩], by simp; omega, ks, rfl, ST, ((B1.out.alloc B1.out.size _).alloc (Nat.le_trans B1.out.size (by simp)) _).grown hg (Nat.le_trans B1.out.size (by simp; omega)) (fun i e => (OO.out.lt i e).1), ho⟩, ?_⟩
          simp [intOf]
          omega
      · have kc : ¬ (at_ : Int) < (s.size : Int) := by omega
        have RES := Lib.hid (HRun.out _ _ _ (Run.stop hk))
        go_wp2
        exact bodyPost_ret (v := .tuple #[u5, .int .i64 0, .int .i64 0]) (by simp [results, Try.results17, go_sem]) rfl ⟨⟨_, fs, 0, 0, rfl, by omega, OO.out, .inr ⟨hz, RES.out⟩⟩, BB.out⟩
end Go.Proofs.Ytmbnbediedpgmaa
