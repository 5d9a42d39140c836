/-
  WALK: Parse (the program's).
-/
import Derived.Test.YtmdgfcldohmjdaaDoorWRead3
import Derived.Test.YtmdgfcldohmjdaaDoorWFlows
namespace Go.Proofs.YtmdgfcldohmjdaaDoor
open Go.RowKit
set_option linter.unusedVariables false
set_option linter.unusedSimpArgs false

/-- Line by line, as far as it goes: the flows, the place, the error. -/
inductive Run (s : ByteArray) : Nat → List Fl → List Fl → Nat → Int → Prop
  | stop {at_ : Nat} {fs : List Fl} (h : ¬ at_ < s.size) : Run s at_ fs fs 0 0
  | bad {at_ k : Nat} {fs : List Fl} (h : at_ < s.size) (l : LineS s at_ k none) : Run s at_ fs [] k 31
  | step {at_ k p : Nat} {fs gs : List Fl} {f : Fl} {e : Int} (h : at_ < s.size) (l : LineS s at_ k (some f)) (r : Run s k (fs ++ [f]) gs p e) : Run s at_ fs gs p e
theorem run_one {s : ByteArray} {at_ p p' : Nat} {fs gs gs' : List Fl} {e e' : Int} (h : Run s at_ fs gs p e) (h' : Run s at_ fs gs' p' e') : gs = gs' ∧ p = p' ∧ e = e' := by
  induction h with
  | stop h => cases h' with
    | stop _ => exact ⟨rfl, rfl, rfl⟩
    | bad k _ => exact absurd k h
    | step k _ _ => exact absurd k h
  | bad h l => cases h' with
    | stop k => exact absurd h k
    | bad _ l' => obtain ⟨rfl, _⟩ := line_one l l'; exact ⟨rfl, rfl, rfl⟩
    | step _ l' _ => have := (line_one l l').2; cases this
  | step h l r ih => cases h' with
    | stop k => exact absurd h k
    | bad _ l' => have := (line_one l l').2; cases this
    | step _ l' r' =>
      obtain ⟨rfl, e⟩ := line_one l l'
      cases e
      exact ih r'
theorem nd_le {s : ByteArray} {at_ lim k n : Nat} {wh : Bool} (h : ND s at_ lim k n wh) : at_ ≤ k := by
  rcases h with ⟨_, h, _⟩ | ⟨_, j, _, h, _⟩ <;> omega
theorem line_lt {s : ByteArray} {at_ k : Nat} {f : Fl} (h : LineS s at_ k (some f)) : at_ + 3 ≤ k := by
  obtain ⟨k1, d, wh1, n1, h⟩ := h
  have a1 := nd_le n1
  rcases h with ⟨_, _, c⟩ | ⟨_, _, k2, wh2, n2, h⟩
  · cases c
  obtain ⟨j, _, a2, _⟩ := n2
  rcases h with ⟨_, _, c⟩ | ⟨_, _, k3, m, wh3, n3, h⟩
  · cases c
  have a3 : k2 + 1 ≤ k3 := by
    rcases n3 with ⟨_, n, b, _⟩ | ⟨_, _, b, _⟩ | ⟨_, _, n, b, _⟩
    · exact nd_le b
    · omega
    · have := nd_le b; omega
  rcases h with ⟨_, _, c⟩ | ⟨_, _, b, _⟩
  · cases c
  · omega

theorem RD.grown {w w' : World} {g : Nat} {s : ByteArray} {at_ : Nat} {row : Option Nat} (h : RD w g s at_) (hg : w.grownBy w' row) (hn : row ≠ some g) : RD w' g s at_ := by
  have hb := hg.block g h.lt (fun e => hn e.symm)
  exact ⟨by rw [World.cell?_of_block (a := ⟨g, 0, none⟩) hb]; exact h.t, by rw [World.cell?_of_block (a := ⟨g, 1, none⟩) hb]; exact h.a, by rw [World.frozen?_of_block (a := ⟨g, 1, none⟩) hb]; exact h.f, Nat.lt_of_lt_of_le h.lt hg.size, h.sz, h.le⟩
theorem rd_new (w : World) (s : ByteArray) (hs : s.size ≤ 1048576) : RD (w.alloc (.cells #[.string s, .int .i64 0] 51)) w.heap.size s 0 :=
  ⟨by go_simp, by go_simp, by go_simp, by simp, hs, by omega⟩
theorem Gr.below {g B : Nat} {a b c : World} (h : Below B a b) (k : Gr g b c) (hg : B ≤ g) (hs : B ≤ b.heap.size) : Below B a c := h.grown k hs (fun i e => by cases e; exact hg)

theorem own_base {w : World} {B B' e s n : Nat} {v : Value} {xs : List Value} (h : w.ownsRow B e s v n xs) (hb : B' ≤ B) : w.ownsRow B' e s v n xs := by
  obtain ⟨h1, h2⟩ := h
  refine ⟨h1, ?_⟩
  rcases h2 with h2 | ⟨g, cap, cur, rfl, hB, r⟩
  · exact .inl h2
  · exact .inr ⟨g, cap, cur, rfl, Nat.le_trans hb hB, r⟩
theorem below_dn {B : Nat} {a w : World} (h : Below B a w) (n : Nat) : Below B a (w.drewN n) := ⟨h.os, h.tape, h.output, h.size, h.block⟩
/-- What Parse answers. -/
def ParE (s : ByteArray) (B : Nat) (w' : World) (e : Ending) : Prop := ∃ (v : Value) (gs : List Fl) (p : Nat) (er : Int), e = .returned (.tuple #[v, .int .i64 (p : Int), .int .i64 er]) ∧ gs.length ≤ 1048576 ∧ w'.ownsRow B 32 3 v gs.length (fcs gs) ∧
  ((1048576 < s.size ∧ gs = [] ∧ p = 0 ∧ er = 6) ∨ (s.size ≤ 1048576 ∧ Run s 0 [] gs p er))

set_option maxRecDepth 100000 in
set_option maxHeartbeats 4000000 in
theorem parse_any (s : ByteArray) (w : World) (hs : s.size ≤ maxLen) :
    Calls Tryd.prog 9 #[.string s] w fun e w' => ParE s w.heap.size w' e ∧ Below w.heap.size w w' := by
  by_cases hl : 1048576 < s.size
  · have hc : (1048576 : Int) < (s.size : Int) := by omega
    go_enter Tryd.func9, Tryd.ntmps9
    go_wp2
    exact bodyPost_ret (v := .tuple #[.slice none 0 0, .int .i64 0, .int .i64 6]) (by simp [results, Tryd.results9, go_sem]) rfl ⟨⟨_, [], 0, 6, rfl, by simp, ⟨rfl, .inl ⟨rfl, rfl⟩⟩, .inl ⟨hl, rfl, rfl, rfl⟩⟩, Below.refl _ _⟩
  · have hc : ¬ (1048576 : Int) < (s.size : Int) := by omega
    have hz : s.size ≤ 1048576 := by omega
    have R0 := Lib.hid (rd_new w s hz)
    go_enter Tryd.func9, Tryd.ntmps9
    go_wp2
    go_loopw [5] (fun v wr => ∃ (at_ : Nat) (fs : List Fl), fs.length ≤ at_ ∧ RD wr w.heap.size s at_ ∧ RowKit.Hid (∀ gs p e, Run s at_ fs gs p e → Run s 0 [] gs p e) ∧ Below w.heap.size w wr ∧ wr.ownsRow (w.heap.size + 1) 32 3 v fs.length (fcs fs)) (fun v wr => s.size - posOf w.heap.size wr)
    case atStart => exact ⟨0, [], by simp, R0.out, fun _ _ _ h => h, (Below.refl _ _).alloc (Nat.le_refl _) _, rfl, .inl ⟨rfl, rfl⟩⟩
    case round =>
      obtain ⟨at_, fs, fl, hr, HRun, hB, hO⟩ := hrel
      have RR := Lib.hid hr
      have BB := Lib.hid hB
      have OO := Lib.hid hO
      have PS := Lib.hid hr.pos
      have SZ := Lib.hid (show w.heap.size + 1 ≤ wr.heap.size from hr.lt)
      obtain ⟨h1, h2, h3, h4, h5, h6⟩ := hr
      clear hB hO
      by_cases hk : at_ < s.size
      · have kc : (at_ : Int) < (s.size : Int) := by omega
        have KL := Lib.hid (line_any w.heap.size s at_ wr RR.out)
        go_wp2_with fail
        refine KL.out.mono ?_
        rintro e w1 ⟨k, r, hL, hE, hr1, hg1⟩
        have R1 := Lib.hid hr1
        have G1 := Lib.hid hg1
        have LL := Lib.hid hL
        clear h1 h2 h3 h4 h5 h6
        obtain ⟨h1, h2, h3, h4, h5, h6⟩ := hr1
        clear hg1 hL
        rcases hE with ⟨rfl, rfl⟩ | ⟨f, rfl, rfl⟩
        · have RES := Lib.hid (HRun.out _ _ _ (Run.bad hk LL.out))
          have B1 := Lib.hid (Gr.below BB.out G1.out (Nat.le_refl _) (Nat.le_trans (Nat.le_succ _) SZ.out))
          go_wp2
          go_quiet (fail)
          go_wp2
          exact bodyPost_ret (v := .tuple #[.slice none 0 0, .int .i64 (k : Int), .int .i64 31]) (by simp [results, Tryd.results9, go_sem]) rfl ⟨⟨_, [], k, 31, rfl, by simp, ⟨rfl, .inl ⟨rfl, rfl⟩⟩, .inr ⟨hz, RES.out⟩⟩, below_dn (B1.out.alloc B1.out.size _) _⟩
        · obtain ⟨fd, fc, fa⟩ := f
          have lt := line_lt LL.out
          have ST := Lib.hid (p := ∀ gs p e, Run s k (fs ++ [⟨fd, fc, fa⟩]) gs p e → Run s 0 [] gs p e) (fun gs p e r => HRun.out gs p e (Run.step hk LL.out r))
          have O1 := Lib.hid (OO.out.kept G1.out (by
            by_cases e : Value.ownBlock u5 = none
            · exact .inl e
            · exact .inr (fun e' => by have := (OO.out.lt _ e').1; omega)))
          have B1 := Lib.hid (Gr.below BB.out G1.out (Nat.le_refl _) (Nat.le_trans (Nat.le_succ _) SZ.out))
          have S1 := Lib.hid (Nat.le_trans SZ.out G1.out.size)
          go_wp2_with (at_builtin; refine wp_flow _ fd fa fc rfl _ _ rfl (w.heap.size + 1) _ fs rfl (by simp only [World.size_alloc]; rfl) (O1.out.alloc _) (by have := R1.out.le; have := R1.out.sz; omega) (Nat.le_trans S1.out (by simp)) ?_; intro v' w2 ho hg)
          have hne : Value.ownBlock u5 ≠ some w.heap.size := fun e' => by have := (OO.out.lt _ e').1; omega
          have R2 := ((R1.out.below (((Below.refl _ _).alloc (Nat.le_refl _) _).alloc (by simp) _)).grown hg hne)
          refine ⟨⟨k, fs ++ [⟨fd, fc, fa⟩], by simp; omega, R2, ST, ((B1.out.alloc B1.out.size _).alloc (Nat.le_trans B1.out.size (by simp)) _).grown hg (Nat.le_trans B1.out.size (by simp; omega)) (fun i e => Nat.le_trans (Nat.le_succ _) (OO.out.lt i e).1), ho⟩, ?_⟩
          rw [PS.out, R2.pos]
          have := R2.le
          omega
      · have kc : ¬ (at_ : Int) < (s.size : Int) := by omega
        have RES := Lib.hid (HRun.out _ _ _ (Run.stop hk))
        go_wp2
        exact bodyPost_ret (v := .tuple #[u5, .int .i64 0, .int .i64 0]) (by simp [results, Tryd.results9, go_sem]) rfl ⟨⟨_, fs, 0, 0, rfl, by omega, own_base OO.out (Nat.le_succ _), .inr ⟨hz, RES.out⟩⟩, BB.out⟩
end Go.Proofs.YtmdgfcldohmjdaaDoor
